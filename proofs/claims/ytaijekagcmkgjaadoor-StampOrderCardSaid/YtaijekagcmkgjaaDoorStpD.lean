/- stamp.Span, walked. -/
import Derived.Test.YtaijekagcmkgjaaDoorStpC
import Derived.Test.YtaijekagcmkgjaaDoorStpQ
import Derived.Test.YtaijekagcmkgjaaDoorShelf
import Derived.Deep.LoopGhost
import Derived.Laws.Rows
namespace Go.Proofs.YtaijekagcmkgjaaDoor
open Go.ChangeShapes Go.WideShapes Go.ChangeAt Go.RowKit K S3
set_option linter.unusedVariables false

/-- What the variable 'units' holds. -/
def UC : Array Value := #[.string (bs [100]), .int .i64 86400000000000, .string (bs [104]), .int .i64 3600000000000, .string (bs [109]), .int .i64 60000000000, .string (bs [115]), .int .i64 1000000000, .string (bs [109, 115]), .int .i64 1000000, .string (bs [117, 115]), .int .i64 1000, .string (bs [110, 115]), .int .i64 1]
def Units (w : World) : Prop := ∃ t fr, w.heap[0]? = some (.cells UC t fr)
theorem Units.below {w w' : World} (h : Units w) (k : Below w.heap.size w w') : Units w' := by
  obtain ⟨t, fr, h⟩ := h
  exact ⟨t, fr, (k.block _ (lt_of_block h)).trans h⟩
set_option maxRecDepth 100000 in
theorem unit_at (k : Nat) (h : k < 7) : ∀ w, (Instr.index 47 (.agg UC) (.int .i64 k)).run Tryd.prog w = .ok (.agg #[.string (bs (nmU k)), .int .i64 (byU k : Nat)]) w := by
  obtain rfl | rfl | rfl | rfl | rfl | rfl | rfl : k = 0 ∨ k = 1 ∨ k = 2 ∨ k = 3 ∨ k = 4 ∨ k = 5 ∨ k = 6 := by omega
  all_goals exact fun w => by kernel_rfl

theorem suffix_walk (l u : List UInt8) (hl : l.length ≤ 140737488351232) (w : World) :
    Calls Tryd.prog 33 #[.string (bs l), .string (bs u)] w fun e w' => e = .returned (.tuple #[.string (bs (Lib.trimSuffix l u)), .bool (Lib.hasSuffix l u)]) ∧ w = w' := by
  have h := Tryd.strings_CutSuffix (bs l) (bs u) w (by rw [bs_size]; omega)
  rw [bs_toList, bs_toList] at h
  exact h.mono fun _ _ ⟨a, b⟩ => ⟨a, b.symm⟩

theorem fits_walk (X : List UInt8) (hl : X.length ≤ 140737488351232) (w : World) :
    Calls Tryd.prog 34 #[.string (bs X)] w fun e w' => e = .returned (.bool (fitB X)) ∧ w = w' := by
  by_cases hn : X = []
  · subst hn
    go_enter Tryd.func34, Tryd.ntmps34
    go_wp2
    go_ret
    exact ⟨rfl, rfl⟩
  · by_cases hz : X = [48]
    · subst hz
      go_enter Tryd.func34, Tryd.ntmps34
      go_wp2
      go_ret
      exact ⟨rfl, rfl⟩
    · have hpos : 0 < X.length := List.length_pos_iff.2 hn
      have hx : (X == [48]) = false := by simpa using hz
      have hx2 : X.isEmpty = false := by simpa using hn
      by_cases h9 : X.length ≤ 9
      · by_cases h0 : byt X 0 = 48
        · have e : fitB X = false := by unfold fitB; rw [hx, hx2]; simp [h0]
          have hb : (((byt X 0 : Nat) : Int) != 48) = false := by rw [h0]; rfl
          rw [e]
          clear e h0
          go_enter Tryd.func34, Tryd.ntmps34
          go_wp2
          go_ret
          exact ⟨rfl, rfl⟩
        · have e : fitB X = true := by unfold fitB; rw [hx, hx2]; simp [h0, h9]
          have hb : (((byt X 0 : Nat) : Int) != 48) = true := by rw [bne_iff_ne]; omega
          rw [e]
          clear e h0
          go_enter Tryd.func34, Tryd.ntmps34
          go_wp2
          go_ret
          exact ⟨rfl, rfl⟩
      · have e : fitB X = false := by unfold fitB; rw [hx, hx2]; simp [h9]
        have h9' : decide ((X.length : Int) ≤ 9) = false := decide_eq_false (by omega)
        rw [e]
        clear e h9
        go_enter Tryd.func34, Tryd.ntmps34
        go_wp2
        go_ret
        exact ⟨rfl, rfl⟩

def SRel (w : World) (l : List UInt8) (g : Nat) (v11 : Value) (wr : World) : Prop :=
  ∃ k, k + g = 7 ∧ v11 = .int .i64 k ∧ Below w.heap.size w wr ∧ spGo (unitL.drop k) l = spGo unitL l
def IRel (X : List UInt8) (w2 : World) (g : Nat) (v8 v30 : Value) (wr : World) : Prop :=
  ∃ j, j + g = X.length ∧ v30 = .int .i64 j ∧ v8 = .int .i64 (vl (X.take j) : Nat) ∧ (X.take j).all isD = true ∧ w2 = wr
set_option maxRecDepth 100000 in
set_option maxHeartbeats 4000000 in
theorem span_walk (l : List UInt8) (hl : l.length ≤ 140737488351232) (w : World) (hU : Units w) :
    Calls Tryd.prog 11 #[.string (bs l)] w fun e w' => e = .returned (.tuple #[.int .i64 (spV l), .int .i64 (spC l)]) ∧ Below w.heap.size w w' := by
  obtain ⟨tU, fU, hU⟩ := hU
  have hsp : spV l = (spGo unitL l).1 ∧ spC l = (spGo unitL l).2 := ⟨rfl, rfl⟩
  have HSP := Lib.hid hsp; clear hsp
  go_enter Tryd.func11, Tryd.ntmps11
  go_wp2
  go_step3
  go_wp2
  go_step3
  go_wp2_with (refine wpList_load_row rfl 47 _ rfl 0 rfl tU UC fU _ hU Tryd.underlying47 rfl (by kernel_rfl) ?_)
  clear hU
  go_loopg [11] 7 (fun g v11 wr => SRel w l g v11 wr)
  case atStart => exact ⟨0, by omega, rfl, Below.refl _ _, rfl⟩
  case round =>
    obtain ⟨k, hkg, rfl, hb, hs⟩ := hrel
    cases gk with
    | zero =>
      obtain rfl : k = 7 := by omega
      have hs2 : spGo unitL l = (0, 30) := hs.symm
      have HS := Lib.hid hs2
      clear hs hs2
      go_wp2
      go_ret2
      rw [HSP.out.1, HSP.out.2, HS.out]
      exact ⟨rfl, hb⟩
    | succ g =>
      have hk7 : k < 7 := by omega
      have hix := unit_at k hk7
      have hui := unit_in k hk7
      rw [unit_drop k hk7] at hs
      have hsz := hb.size
      generalize nmU k = nm at hix hui hs
      generalize byU k = by' at hix hui hs
      have hcut := fun w1 => suffix_walk l nm hl w1
      have hct : ∀ h : Lib.hasSuffix l nm = true, Lib.trimSuffix l nm = cutU l nm := fun h => cutU_trim h
      have HCT := Lib.hid hct; have HC := Lib.hid hcut
      obtain ⟨u1, u2, u3, u4⟩ := hui
      clear hct hcut
      cases hsf : Lib.hasSuffix l nm
      · have hno := spGo_no nm by' (unitL.drop (k + 1)) l (by unfold hitU; rw [hsf]; rfl)
        rw [hno] at hs
        have HS := Lib.hid hs
        have HC0 := HC.out
        rw [hsf] at HC0
        have HC1 := Lib.hid HC0
        clear hs hno hsf HC HC0 HCT
        go_wp2_with fail
        refine (HC1.out _).mono ?_
        rintro e w1 ⟨rfl, rfl⟩
        go_wp2
        go_roundg g
        case measure => omega
        case rel => exact ⟨k + 1, by omega, by simp, hb.alloc hsz _, HS.out⟩
      · have HC0 := HC.out
        rw [hsf, HCT.out hsf] at HC0
        have hXl : (cutU l nm).length ≤ l.length := by unfold cutU; exact List.length_take_le' _ _
        have hhit : hitU l nm = (fitB (cutU l nm) && (cutU l nm).all isD) := by unfold hitU; rw [hsf]; rfl
        have hN := fun h => spGo_no nm by' (unitL.drop (k + 1)) l h
        have hBg := fun h h2 => spGo_big nm by' (unitL.drop (k + 1)) l h h2
        have hY := fun h h2 => spGo_yes nm by' (unitL.drop (k + 1)) l h h2
        rw [hhit] at hN hBg hY
        generalize cutU l nm = X at HC0 hXl hN hBg hY
        have HC1 := Lib.hid HC0; have HN := Lib.hid hN; have HBg := Lib.hid hBg; have HY := Lib.hid hY
        clear HC0 hN hBg hY hhit hsf HC HCT
        have hF := fun w1 => fits_walk X (by omega) w1
        cases hfx : fitB X
        · have hs2 := hs
          rw [HN.out (by rw [hfx]; rfl)] at hs2
          have HS := Lib.hid hs2
          have hF0 := hF
          rw [hfx] at hF0
          have HF := Lib.hid hF0
          clear hs hs2 hF hF0 hfx HN HBg HY
          go_wp2_with fail
          refine (HC1.out _).mono ?_
          rintro e w1 ⟨rfl, rfl⟩
          go_wp2_with fail
          refine (HF.out _).mono ?_
          rintro e w1 ⟨rfl, rfl⟩
          go_wp2
          go_roundg g
          case measure => omega
          case rel => exact ⟨k + 1, by omega, by simp, hb.alloc hsz _, HS.out⟩
        · have hX9 := fitB_len hfx
          have hF0 := hF
          rw [hfx] at hF0
          have HF := Lib.hid hF0
          have HS := Lib.hid hs
          have HFX := Lib.hid hfx
          clear hs hF hF0 hfx
          obtain ⟨x1, x9⟩ := hX9
          go_wp2_with fail
          refine (HC1.out _).mono ?_
          rintro e w1 ⟨rfl, rfl⟩
          go_wp2_with fail
          refine (HF.out _).mono ?_
          rintro e w1 ⟨rfl, rfl⟩
          go_wp2
          have hb2 : Below w.heap.size w (wr.alloc (.cells #[.string (bs nm), .int .i64 (by' : Nat)] 46)) := hb.alloc hsz _
          have hcell : (wr.alloc (.cells #[.string (bs nm), .int .i64 (by' : Nat)] 46)).cell? ⟨wr.heap.size, 1, none⟩ = some (.int .i64 (by' : Nat)) := cellRow (rowNew _ _) 1
          generalize wr.alloc (.cells #[.string (bs nm), .int .i64 (by' : Nat)] 46) = w2 at hb2 hcell ⊢
          clear hix HC1 HF
          go_loopg [8, 30] X.length (fun g v8 v30 wy => IRel X w2 g v8 v30 wy)
          case atStart => exact ⟨0, by omega, rfl, rfl, rfl, rfl⟩
          case round =>
            obtain ⟨j, hjg, rfl, rfl, ha, rfl⟩ := hrel
            cases gk with
            | zero =>
              obtain rfl : j = X.length := by omega
              rw [List.take_length] at ha
              have hv := vl_lt X ha
              have hv9 : vl X < 1000000000 := by
                have : 10 ^ X.length ≤ 10 ^ 9 := Nat.pow_le_pow_right (by omega) x9
                omega
              clear hv
              simp only [List.take_length]
              by_cases hbig : 2305843009213693952 / by' < vl X
              · have hs2 := HS.out
                rw [HBg.out (by rw [HFX.out, ha]; rfl) hbig] at hs2
                have HS2 := Lib.hid hs2.symm
                have hbig' : 2305843009213693952 / (by' : Int) < (vl X : Int) := by
                  have : ((2305843009213693952 / by' : Nat) : Int) < (vl X : Int) := by omega
                  simpa using this
                clear hs2 hbig HS HBg HY HN HFX ha
                generalize vl X = V at *
                have hnz : (((by' : Nat) : Int) == 0) = false := by rw [beq_eq_false_iff_ne]; omega
                go_wp2
                rw [Exit.noGoto_ret]
                go_ret2
                rw [HSP.out.1, HSP.out.2, HS2.out]
                exact ⟨rfl, hb2⟩
              · have hs2 := HS.out
                rw [HY.out (by rw [HFX.out, ha]; rfl) hbig] at hs2
                have HS2 := Lib.hid hs2.symm
                have hbig' : (vl X : Int) ≤ 2305843009213693952 / (by' : Int) := by
                  have : (vl X : Int) ≤ ((2305843009213693952 / by' : Nat) : Int) := by omega
                  simpa using this
                have hm : vl X * by' ≤ 2305843009213693952 := by
                  have h1 : vl X * by' ≤ 2305843009213693952 / by' * by' := Nat.mul_le_mul_right _ (by omega)
                  exact Nat.le_trans h1 (Nat.div_mul_le_self _ _)
                have hm' : (vl X : Int) * (by' : Int) ≤ 2305843009213693952 := by rw [← Int.natCast_mul]; omega
                have hm0 : 0 ≤ (vl X : Int) * (by' : Int) := by rw [← Int.natCast_mul]; omega
                clear hs2 hbig HS HBg HY HN HFX ha hm
                generalize vl X = V at *
                have hnz : (((by' : Nat) : Int) == 0) = false := by rw [beq_eq_false_iff_ne]; omega
                go_wp2
                rw [Exit.noGoto_ret]
                go_ret2
                rw [HSP.out.1, HSP.out.2, HS2.out]
                exact ⟨rfl, hb2⟩
            | succ g2 =>
              have hjl : j < X.length := by omega
              have hv := vl_lt (X.take j) ha
              have hv9 : vl (X.take j) < 1000000000 := by
                have : 10 ^ (X.take j).length ≤ 10 ^ 9 := Nat.pow_le_pow_right (by omega) (by rw [List.length_take]; omega)
                omega
              clear hv
              have hts := vl_take X j hjl
              have hta := all_take X j hjl
              have hbt := byt_lt X j
              have hD := fun w1 => isDigit_walk (byt X j) w1
              cases hdg : isDn (byt X j)
              · have hall := all_of_take hjl hdg
                have hs2 := HS.out
                rw [HN.out (by rw [HFX.out, hall]; rfl)] at hs2
                have HS2 := Lib.hid hs2
                rw [hdg] at hD
                have HD := Lib.hid hD
                clear hs2 HS HBg HY HN HFX ha hdg hts hta hD hall
                go_wp2_with fail
                refine (HD.out _).mono ?_
                rintro e w1 ⟨rfl, rfl⟩
                go_wp2
                go_roundg g
                case measure => omega
                case rel => exact ⟨k + 1, by omega, by simp, hb2, HS2.out⟩
              · have hd2 : 48 ≤ byt X j ∧ byt X j ≤ 57 := by simpa [isDn] using hdg
                rw [hdg] at hD
                rw [ha, hdg] at hta
                have HD := Lib.hid hD; have HTS := Lib.hid hts; have HTA := Lib.hid hta
                clear ha hdg hts hta hD
                obtain ⟨d1, d2⟩ := hd2
                generalize vl (X.take j) = V at *
                go_wp2_with fail
                refine (HD.out _).mono ?_
                rintro e w1 ⟨rfl, rfl⟩
                go_wp2
                go_roundg g2
                case measure => omega
                case rel =>
                  refine ⟨j + 1, by omega, by simp, ?_, by rw [HTA.out]; rfl, rfl⟩
                  rw [HTS.out]; congr 1; omega
end Go.Proofs.YtaijekagcmkgjaaDoor
