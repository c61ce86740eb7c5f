/- Texts on the program and on the document, joined: ValM, ValX. -/
import Derived.Test.YtkmfcnilbmckmaaGreatDoorMa34
import Derived.Test.YtkmfcnilbmckmaaGreatDoorMa33
import Derived.Lib.Join
import Derived.Test.YtkmfcnilbmckmaaGreatDoorMa26
/- value's numbers and digits, walked. -/
namespace Go.Proofs.YtkmfcnilbmckmaaGreatDoor
open Go.ChangeShapes Go.WideShapes Go.ChangeAt Go.RowKit K P1 B5
set_option linter.unusedVariables false

/-- The words of an address, as far as they are laid. -/
def adW (s : List UInt8) (i j : Nat) : Value := .string (bs (if j < i then O6.nm (byt s j) else []))
def AwRel (s : List UInt8) (w : World) (g : Nat) (v10 : Value) (wr : World) : Prop :=
  ∃ i : Nat, i + g = 4 ∧ v10 = .int .i64 (i : Nat) ∧ wr.heap[w.heap.size]? = some (.cells #[adW s i 0, adW s i 1, adW s i 2, adW s i 3] 9 (0, 0)) ∧ Below w.heap.size w wr
theorem adT_four (s : List UInt8) : adT s 4 = O6.nm (byt s 0) ++ [46] ++ O6.nm (byt s 1) ++ [46] ++ O6.nm (byt s 2) ++ [46] ++ O6.nm (byt s 3) := by
  simp [adT]
theorem join_four (a b c d : List UInt8) : Lib.join ([bs a, bs b, bs c, bs d].map (·.data.toList)) (bs [46]).data.toList = a ++ [46] ++ b ++ [46] ++ c ++ [46] ++ d := by
  simp only [List.map_cons, List.map_nil]
  rw [Lib.join_cons]
  show a ++ Lib.joinTail [46] [b, c, d] = _
  simp [Lib.joinTail]
theorem info_s7 : (Tryz.prog.info? 9).map (fun i => (i.zero, i.size, i.bytes)) = some (some (.string .empty), 1, 16) := by kernel_rfl
theorem make_four (w : World) : (Instr.makeSlice 84 (.int .i64 4) (.int .i64 4)).run Tryz.prog w = .ok (.slice (some ⟨w.heap.size, 0, none⟩) 4 4) (w.alloc (.cells #[.string (bs []), .string (bs []), .string (bs []), .string (bs [])] 9)) := by
  obtain ⟨i0, hi, hz0, hz1, hz2⟩ := info_parts info_s7
  have h := Go.run_make (P := Tryz.prog) w 84 9 i0 (.string .empty) Tryz.underlying84 hi hz0 .i64 .i64 4 4 (by omega) (by omega) (by rw [hz2]; omega) (by omega)
  rw [hz1] at h
  have e : madeCells (Value.string ByteArray.empty).cells (Int.toNat 4 * 1) = #[.string (bs []), .string (bs []), .string (bs []), .string (bs [])] := by
    have r4 : Array.range 4 = #[0, 1, 2, 3] := by decide +kernel
    simp [madeCells, Value.cells, r4]; rfl
  rw [e] at h
  exact h
set_option maxRecDepth 100000 in
set_option maxHeartbeats 2000000 in
theorem numbers_walk (s : List UInt8) (hs : s.length = 4) (w : World) (T : Tabs w) :
    Calls Tryz.prog 31 #[.string (bs s)] w fun e w' => e = .returned (.string (bs (adT s 4))) ∧ Below w.heap.size w w' := by
  have HT := Lib.hid T
  have hl4 : ((s.length : Nat) : Int) = 4 := by omega
  have hmk := make_four
  have hba := alloc_in w (.cells #[.string (bs []), .string (bs []), .string (bs []), .string (bs [])] 9)
  have hrw : (w.alloc (.cells #[.string (bs []), .string (bs []), .string (bs []), .string (bs [])] 9)).heap[w.heap.size]? = some (.cells #[adW s 0 0, adW s 0 1, adW s 0 2, adW s 0 3] 9 (0, 0)) := rowNew w _
  go_enter Tryz.func31, Tryz.ntmps31
  go_wp2_with fail
  clear hmk
  generalize w.alloc (.cells #[.string (bs []), .string (bs []), .string (bs []), .string (bs [])] 9) = w0 at *
  go_loopg [4, 10] 4 (fun g v4 v10 wr => AwRel s w g v10 wr)
  case atStart => exact ⟨0, by omega, rfl, hrw, hba⟩
  case round =>
    obtain ⟨i, hi, rfl, hr, hb⟩ := hrel
    cases gk with
    | zero =>
      obtain rfl : i = 4 := by omega
      have hC : ∀ (j : Nat) x, [bs (O6.nm (byt s 0)), bs (O6.nm (byt s 1)), bs (O6.nm (byt s 2)), bs (O6.nm (byt s 3))][j]? = some x → wr.cell? ⟨w.heap.size, 0 + j, none⟩ = some (.string x) := by
        intro j x hj
        rw [Nat.zero_add, cellRow hr]
        match j, hj with
        | 0, hj => simp at hj; subst hj; rfl
        | 1, hj => simp at hj; subst hj; rfl
        | 2, hj => simp at hj; subst hj; rfl
        | 3, hj => simp at hj; subst hj; rfl
      have l0 := nm_len20 (byt s 0)
      have l1 := nm_len20 (byt s 1)
      have l2 := nm_len20 (byt s 2)
      have l3 := nm_len20 (byt s 3)
      have hJ := Tryz.strings_Join w.heap.size 0 4 [bs (O6.nm (byt s 0)), bs (O6.nm (byt s 1)), bs (O6.nm (byt s 2)), bs (O6.nm (byt s 3))] (bs [46]) wr hC (lt_of_block hr) (by simp) (by simp) (by rw [join_four]; simp only [List.length_append, List.length_cons, List.length_nil]; omega)
      rw [join_four, ← adT_four] at hJ
      obtain ⟨R, hR⟩ : ∃ R, adT s 4 = R := ⟨_, rfl⟩
      rw [hR] at hJ
      have HR := Lib.hid hR
      have HJ := Lib.hid hJ
      clear hJ hC l0 l1 l2 l3 hR
      go_wp2_with fail
      refine HJ.out.mono ?_
      rintro e w1 ⟨rfl, b1⟩
      go_wp2
      go_ret
      exact ⟨by rw [HR.out]; rfl, hb.trans (b1.mono hb.size)⟩
    | succ g =>
      have hbb := byt_lt s i
      have HI := Lib.hid (fun w1 (h : Tabs w1) => itoa_walk (byt s i) (by omega) w1 h)
      have hi4 : ((i : Nat) : Int) < 4 := by omega
      have hil : i < s.length := by omega
      have HTr := Lib.hid (HT.out.below hb)
      have ec : ∀ j : Nat, j ≠ i → adW s (i + 1) j = adW s i j := fun j hj => by
        unfold adW
        by_cases h : j < i
        · rw [if_pos h, if_pos (by omega)]
        · rw [if_neg h, if_neg (by omega)]
      have ei : adW s (i + 1) i = .string (bs (O6.nm (byt s i))) := by unfold adW; rw [if_pos (by omega)]
      have HEC := Lib.hid (And.intro ec ei)
      clear ec ei
      have hi03 : i = 0 ∨ i = 1 ∨ i = 2 ∨ i = 3 := by omega
      generalize O6.nm (byt s i) = NM at *
      rcases hi03 with rfl | rfl | rfl | rfl
      all_goals
        go_wp2_with fail
        refine (HI.out _ HTr.out).mono ?_
        rintro e w1 ⟨rfl, b1⟩
        have hr1 := (b1.block _ (lt_of_block hr)).trans hr
        have hb1 := hb.trans (b1.mono hb.size)
        have c0 := cellRow hr1 0
        have c1 := cellRow hr1 1
        have c2 := cellRow hr1 2
        have c3 := cellRow hr1 3
        have f0 := freeRow hr1 0
        have f1 := freeRow hr1 1
        have f2 := freeRow hr1 2
        have f3 := freeRow hr1 3
        simp only [adW] at c0 c1 c2 c3
        clear b1 hr hb HI HTr
        go_wp2
        go_roundg g
        case measure => omega
        case rel =>
          obtain ⟨e1, e2⟩ := HEC.out
          first
            | (refine ⟨0 + 1, by omega, rfl, ?_, hb1.setCell (p := ⟨w.heap.size, 0, none⟩) (Nat.le_refl _) _⟩; rw [show adW s (0 + 1) 0 = _ from e2, show adW s (0 + 1) 1 = _ from e1 1 (by omega), show adW s (0 + 1) 2 = _ from e1 2 (by omega), show adW s (0 + 1) 3 = _ from e1 3 (by omega)]; exact rowSet hr1 0 (.string (bs NM)))
            | (refine ⟨1 + 1, by omega, rfl, ?_, hb1.setCell (p := ⟨w.heap.size, 1, none⟩) (Nat.le_refl _) _⟩; rw [show adW s (1 + 1) 0 = _ from e1 0 (by omega), show adW s (1 + 1) 1 = _ from e2, show adW s (1 + 1) 2 = _ from e1 2 (by omega), show adW s (1 + 1) 3 = _ from e1 3 (by omega)]; exact rowSet hr1 1 (.string (bs NM)))
            | (refine ⟨2 + 1, by omega, rfl, ?_, hb1.setCell (p := ⟨w.heap.size, 2, none⟩) (Nat.le_refl _) _⟩; rw [show adW s (2 + 1) 0 = _ from e1 0 (by omega), show adW s (2 + 1) 1 = _ from e1 1 (by omega), show adW s (2 + 1) 2 = _ from e2, show adW s (2 + 1) 3 = _ from e1 3 (by omega)]; exact rowSet hr1 2 (.string (bs NM)))
            | (refine ⟨3 + 1, by omega, rfl, ?_, hb1.setCell (p := ⟨w.heap.size, 3, none⟩) (Nat.le_refl _) _⟩; rw [show adW s (3 + 1) 0 = _ from e1 0 (by omega), show adW s (3 + 1) 1 = _ from e1 1 (by omega), show adW s (3 + 1) 2 = _ from e1 2 (by omega), show adW s (3 + 1) 3 = _ from e2]; exact rowSet hr1 3 (.string (bs NM)))
theorem hxB (s : List UInt8) (i : Nat) : hxT s (i + 1) = (hxT s i ++ [U4.hd (byt s i / 16)]) ++ [U4.hd (byt s i % 16)] := by
  show hxT s i ++ [_, _] = _
  rw [List.append_assoc]; rfl
def DxRel (s : List UInt8) (w : World) (b g : Nat) (v : Value) (wr : World) : Prop :=
  ∃ i : Nat, i + g = s.length ∧ v = .int .i64 (i : Nat) ∧ Bld b b (hxT s i) wr ∧ Below b w wr
set_option maxRecDepth 100000 in
set_option maxHeartbeats 2000000 in
theorem digits_walk (s : List UInt8) (hs : s.length ≤ 100000) (w : World) :
    Calls Tryz.prog 32 #[.string (bs s)] w fun e w' => e = .returned (.string (bs (hxT s s.length))) ∧ Below w.heap.size w w' := by
  have hbf := obld_fresh w
  have hba : Below w.heap.size w (w.alloc (.cells #[.pointer none, .slice none 0 0] 75)) := alloc_in _ _
  go_enter Tryz.func32, Tryz.ntmps32
  go_wp2_with fail
  generalize w.alloc (.cells #[.pointer none, .slice none 0 0] 75) = w0 at *
  go_loopg [4, 7] s.length (fun g v4 v7 wr => DxRel s w w.heap.size g v7 wr)
  case atStart => exact ⟨0, by omega, rfl, hbf, hba⟩
  case round =>
    obtain ⟨i, hi, rfl, hB, hb⟩ := hrel
    clear hbf hba
    cases gk with
    | zero =>
      obtain rfl : i = s.length := by omega
      go_wp2_with fail
      refine (bstr _ _ _ _ hB hb.size).mono ?_
      rintro e w1 ⟨rfl, b1⟩
      have hb2 := hb.trans b1
      clear b1
      go_wp2
      go_ret
      exact ⟨rfl, hb2⟩
    | succ g =>
      have hlt : i < s.length := by omega
      have hlt' : ((i : Nat) : Int) < ((s.length : Nat) : Int) := by omega
      have hbb := byt_lt s i
      have hxl := hxT_len s i
      have HT := Lib.hid (hxB s i)
      have e1 : IntKind.u8.wrap (((byt s i : Nat) : Int) / 16) = ((byt s i / 16 : Nat) : Int) := by rw [IntWalk.u8_in _ (by omega)]; omega
      have e2 : IntKind.u8.wrap (((byt s i : Nat) : Int) % 16) = ((byt s i % 16 : Nat) : Int) := by rw [IntWalk.u8_in _ (by omega)]; omega
      have e3 : ((byt s i : Nat) : Int).tmod 16 = ((byt s i % 16 : Nat) : Int) := by rw [IntWalk.rem_in _ _ (by omega)]; omega
      have p1 : byt s i / 16 < 16 := by omega
      have p2 : byt s i % 16 < 16 := by omega
      generalize hxT s i = X at *
      generalize byt s i / 16 = p at *
      generalize byt s i % 16 = q at *
      have e4 : IntKind.u8.wrap (q : Int) = (q : Int) := IntWalk.u8_in _ (by omega)
      go_wp2_with fail
      refine (wbyte _ _ _ _ _ hB (by omega) hb.size).mono ?_
      rintro e w1 ⟨rfl, hB1, b1⟩
      have hb1 := hb.trans b1
      clear hB hb b1
      go_wp2_with fail
      refine (wbyte _ _ _ _ _ hB1 (by simp; omega) hb1.size).mono ?_
      rintro e w2 ⟨rfl, hB2, b2⟩
      have hb2 := hb1.trans b2
      clear hB1 hb1 b2
      rw [hex_getV, hex_getV] at hB2
      go_wp2
      go_roundg g
      case measure => omega
      case rel => exact ⟨i + 1, by omega, by simp, by rw [HT.out]; exact hB2, hb2⟩
end Go.Proofs.YtkmfcnilbmckmaaGreatDoor
/- The laws of values, walked on calls that keep their word: works, ValueReads. -/
namespace Go.Proofs.YtkmfcnilbmckmaaGreatDoor
open Go.ChangeShapes Go.WideShapes Go.ChangeAt Go.RowKit K P1 B5
set_option linter.unusedVariables false

/-- What the program's calls are known to answer, in any world of which I. -/
structure ValOk (I : World → Prop) : Prop where
  keep : ∀ a b, I a → Below a.heap.size a b → I b
  check : ∀ (k n : Int) (s : List UInt8) (w : World), s.length ≤ 1000000 → I w → Calls Tryz.prog 14 #[.agg #[.int .i64 k, .int .i64 n, .string (bs s)]] w fun e w' => e = .returned (.int .i64 (V7.ckE k n s : Nat)) ∧ Below w.heap.size w w'
  encode : ∀ (k n : Int) (s : List UInt8) (w : World), s.length ≤ 1000000 → -9223372036854775808 ≤ n → n ≤ 9223372036854775807 → I w → Calls Tryz.prog 10 #[.agg #[.int .i64 k, .int .i64 n, .string (bs s)]] w fun e w' => e = .returned (.tuple #[.string (bs (V7.enT k n s)), .int .i64 (V7.ckE k n s : Nat)]) ∧ Below w.heap.size w w'
  decode : ∀ (k : Int) (b : List UInt8) (w : World), b.length ≤ 1000000 → I w → Calls Tryz.prog 8 #[.agg #[.int .i64 k, .string (bs b)]] w fun e w' => e = .returned (.tuple #[.agg #[.int .i64 (V7.dvK k b), .int .i64 (V7.dvN k b), .string (bs (V7.dvS k b))], .int .i64 (V7.dvE k b : Nat)]) ∧ Below w.heap.size w w'
  shows : ∀ (k n : Int) (s : List UInt8) (w : World), s.length ≤ 3000 ∨ 65535 < s.length → s.length ≤ 1000000 → -9223372036854775808 ≤ n → n ≤ 9223372036854775807 → I w → Calls Tryz.prog 12 #[.agg #[.int .i64 k, .int .i64 n, .string (bs s)]] w fun e w' => e = .returned (.tuple #[.string (bs (shT k n s)), .int .i64 (V7.ckE k n s : Nat)]) ∧ Below w.heap.size w w'
theorem works_vals7 : V7.enT 67 300 [] = [67, 2, 1, 44] ∧ V7.ckE 67 300 [] = 0 ∧ shT 64 0 [127, 0, 0, 1] = [49, 50, 55, 46, 48, 46, 48, 46, 49] ∧ V7.ckE 64 0 [127, 0, 0, 1] = 0 := by decide +kernel
theorem ValOk.works {I : World → Prop} (K : ValOk I) (w : World) (hw : I w) : Calls Tryz.prog 7 #[] w fun e w' => e = .returned (.bool true) ∧ Below w.heap.size w w' := by
  obtain ⟨v1, v2, v3, v4⟩ := works_vals7
  have hA := K.encode 67 300 [] w (by simp) (by omega) (by omega) hw
  rw [v1, v2] at hA
  have hB := fun w1 (h : I w1) => K.shows 64 0 [127, 0, 0, 1] w1 (by simp) (by simp) (by omega) (by omega) h
  rw [v3, v4] at hB
  have HA := Lib.hid hA; have HB := Lib.hid hB; have HK := Lib.hid K.keep
  clear hA hB v1 v2 v3 v4 K
  go_enter Tryz.func7, Tryz.ntmps7
  go_wp2_with fail
  refine HA.out.mono ?_
  rintro e w1 ⟨rfl, b1⟩
  go_wp2_with fail
  refine (HB.out w1 (HK.out _ _ hw b1)).mono ?_
  rintro e w2 ⟨rfl, d⟩
  have b2 := b1.trans (d.mono b1.size)
  clear d
  go_wp2
  go_ret
  exact ⟨rfl, b2⟩
set_option maxRecDepth 100000 in
set_option maxHeartbeats 1000000 in
theorem valueReads_walk (I : World → Prop) (K : ValOk I) (k : Int) (b : List UInt8) (hb : b.length ≤ 140737488351232) (w : World) (hw : I w) :
    Calls Tryz.prog 3 #[.int .i64 k, .string (bs b)] w fun e w' => e = .returned (.bool true) ∧ Below w.heap.size w w' := by
  have HW := Lib.hid (fun w1 (h : I w1) => K.works w1 h)
  have HK := Lib.hid K.keep
  by_cases h : 3000 < b.length
  · have h1 : (3000 : Int) < ((b.length : Nat) : Int) := by omega
    clear K h
    go_enter Tryz.func3, Tryz.ntmps3
    go_wp2_with fail
    refine (HW.out w hw).mono ?_
    rintro e w1 ⟨rfl, b1⟩
    go_wp2
    go_ret
    exact ⟨rfl, b1⟩
  · have h1 : ((b.length : Nat) : Int) ≤ 3000 := by omega
    have HD := Lib.hid (fun w1 (h : I w1) => K.decode k b w1 (by omega) h)
    have HQ := Lib.hid (fun w1 => qdecode7_walk k b hb w1)
    clear K h
    generalize V7.dvK k b = k2 at *
    generalize V7.dvN k b = n2 at *
    generalize V7.dvS k b = s2 at *
    generalize V7.dvE k b = e2 at *
    go_enter Tryz.func3, Tryz.ntmps3
    go_wp2_with fail
    refine (HD.out w hw).mono ?_
    rintro e w1 ⟨rfl, b1⟩
    have i1 := HK.out _ _ hw b1
    go_wp2_with fail
    refine (HQ.out _).mono ?_
    rintro e w2 ⟨rfl, d2⟩
    have bA := b1.alloc b1.size (.cells #[.int .i64 k2, .int .i64 n2, .string (bs s2)] 24)
    have b2 := bA.trans (d2.mono bA.size)
    have i2 := HK.out _ _ (HK.out _ _ i1 (alloc_in w1 (.cells #[.int .i64 k2, .int .i64 n2, .string (bs s2)] 24))) d2
    have i3 := HK.out _ _ i2 (alloc_in w2 (.cells #[.int .i64 k2, .int .i64 n2, .string (bs s2)] 24))
    have b3 := b2.alloc b2.size (.cells #[.int .i64 k2, .int .i64 n2, .string (bs s2)] 24)
    obtain ⟨z0, z1, z2⟩ := ((Vr.new w1 k2 n2 s2).below d2).below (alloc_in w2 (.cells #[.int .i64 k2, .int .i64 n2, .string (bs s2)] 24))
    obtain ⟨y0, y1, y2⟩ := Vr.new w2 k2 n2 s2
    clear d2 bA i1 i2
    go_wp2_with fail
    generalize w2.alloc (.cells #[.int .i64 k2, .int .i64 n2, .string (bs s2)] 24) = w3 at *
    refine (HW.out w3 i3).mono ?_
    rintro e w4 ⟨rfl, d3⟩
    go_wp2
    go_ret
    exact ⟨rfl, b3.trans (d3.mono b3.size)⟩
end Go.Proofs.YtkmfcnilbmckmaaGreatDoor
