/- The document's Shown, walked. -/
import Derived.Test.YthmnfffloioagaaDoorUtfG
namespace Go.Proofs.YthmnfffloioagaaDoor
open Go.ChangeShapes Go.WideShapes Go.ChangeAt Go.RowKit K U4
set_option linter.unusedVariables false

def hexA : ByteArray := { data := #[48, 49, 50, 51, 52, 53, 54, 55, 56, 57, 97, 98, 99, 100, 101, 102] }
theorem hex_cut (d : Nat) (h : d < 16) : ({ data := #[48, 49, 50, 51, 52, 53, 54, 55, 56, 57, 97, 98, 99, 100, 101, 102] } : ByteArray).extract d (d + 1) = bs [hd d] := by
  obtain rfl | rfl | rfl | rfl | rfl | rfl | rfl | rfl | rfl | rfl | rfl | rfl | rfl | rfl | rfl | rfl : d = 0 ∨ d = 1 ∨ d = 2 ∨ d = 3 ∨ d = 4 ∨ d = 5 ∨ d = 6 ∨ d = 7 ∨ d = 8 ∨ d = 9 ∨ d = 10 ∨ d = 11 ∨ d = 12 ∨ d = 13 ∨ d = 14 ∨ d = 15 := by omega
  all_goals rfl
theorem hex_slice (d : Nat) (h : d < 16) : ∀ w, (Instr.slice 9 (.string { data := #[48, 49, 50, 51, 52, 53, 54, 55, 56, 57, 97, 98, 99, 100, 101, 102] }) (some (.int .u8 (d : Nat))) (some (.int .u8 ((d : Int) + 1))) none).run Tryd.prog w = .ok (.string (bs [hd d])) w := by
  intro w
  rw [run_slice_string w 9 _ .u8 .u8 _ _ Tryd.underlying9 (by omega) (by omega) (by show (d : Int) + 1 ≤ (16 : Int); omega)]
  rw [show ((d : Nat) : Int).toNat = d by omega, show ((d : Int) + 1).toNat = d + 1 by omega, hex_cut d h]
theorem lit_app (x : UInt8) : ({ data := #[92, 120] } : ByteArray) ++ bs [x] = bs [92, 120, x] := by
  show bs [92, 120] ++ bs [x] = _
  rw [bs_append]; rfl
set_option maxRecDepth 100000 in
theorem qhex_walk (b : Nat) (hb : b < 256) (w : World) :
    Calls Tryd.prog 40 #[.int .u8 b] w fun e w' => e = .returned (.string (bs (hexb b))) ∧ Dr w w' := by
  have e1 : IntKind.u8.wrap ((b : Int) / 16) = ((b / 16 : Nat) : Int) := by rw [IntWalk.u8_in _ (by omega)]; omega
  have e2 : IntKind.u8.wrap ((b : Int) % 16) = ((b % 16 : Nat) : Int) := by rw [IntWalk.u8_in _ (by omega)]; omega
  have e3 : (b : Int).tmod 16 = ((b % 16 : Nat) : Int) := by rw [IntWalk.rem_in _ _ (by omega)]; omega
  have h1 : b / 16 < 16 := by omega
  have h2 : b % 16 < 16 := by omega
  have sl1 := hex_slice (b / 16) h1
  have sl2 := hex_slice (b % 16) h2
  have la := lit_app (hd (b / 16))
  have hh : hexb b = [92, 120, hd (b / 16)] ++ [hd (b % 16)] := rfl
  have HH := Lib.hid hh
  clear hh
  generalize b / 16 = p at *
  generalize b % 16 = q at *
  have e4 : IntKind.u8.wrap (q : Int) = (q : Int) := IntWalk.u8_in _ (by omega)
  have s1 : IntKind.u8.wrap ((p : Int) + 1) = (p : Int) + 1 := IntWalk.u8_in _ (by omega)
  have s2 : IntKind.u8.wrap ((q : Int) + 1) = (q : Int) + 1 := IntWalk.u8_in _ (by omega)
  go_enter Tryd.func40, Tryd.ntmps40
  go_wp2_with fail
  go_quiet (fail)
  go_wp2
  go_ret
  rw [HH.out]
  exact ⟨rfl, nq, rfl⟩
theorem cut_run (l : List UInt8) (p n : Nat) (h : p + n ≤ l.length) : ∀ w, (Instr.slice 9 (.string (bs l)) (some (.int .i64 (p : Nat))) (some (.int .i64 ((p : Int) + (n : Int)))) none).run Tryd.prog w = .ok (.string (bs ((l.drop p).take n))) w := by
  intro w
  rw [run_slice_string w 9 _ .i64 .i64 _ _ Tryd.underlying9 (by omega) (by omega) (by rw [bs_size]; omega)]
  rw [show ((p : Nat) : Int).toNat = p by omega, show ((p : Int) + (n : Int)).toNat = p + n by omega, bs_extract, Nat.add_sub_cancel_left]
theorem byt_drop (l : List UInt8) (p : Nat) : byt (l.drop p) 0 = byt l p := by simp [byt]
def SqRel (l : List UInt8) (w : World) (g : Nat) (v3 v4 : Value) (wr : World) : Prop :=
  ∃ out p, out ++ shown (l.drop p) = shown l ∧ p ≤ l.length ∧ l.length - p = g ∧ v3 = .string (bs out) ∧ v4 = .int .i64 (p : Nat) ∧ Below w.heap.size w wr
set_option maxRecDepth 100000 in
set_option maxHeartbeats 2000000 in
theorem qshown_walk (l : List UInt8) (hl : l.length ≤ 10000) (w : World) :
    Calls Tryd.prog 20 #[.string (bs l)] w fun e w' => e = .returned (.string (bs (shown l))) ∧ Below w.heap.size w w' := by
  have hsl := shown_len l.length l (Nat.le_refl _)
  go_enter Tryd.func20, Tryd.ntmps20
  go_wp2
  go_loopg [3, 4] l.length (fun g v3 v4 wr => SqRel l w g v3 v4 wr)
  case atStart => exact ⟨[], 0, rfl, by omega, rfl, rfl, rfl, Below.refl _ _⟩
  case round =>
    obtain ⟨out, p, hp, hpl, hg, rfl, rfl, hb⟩ := hrel
    have hol : out.length ≤ 4 * l.length := by
      have := congrArg List.length hp
      rw [List.length_append] at this; omega
    clear hsl
    by_cases hlt : p < l.length
    · have hr := drop_ne hlt
      have hF := qfirst_walk (l.drop p) (by rw [List.length_drop]; omega) wr
      have hst := shown_step hr
      have hb0 := byt_lt l p
      have hbd := byt_drop l p
      have hdd : ∀ n, (l.drop p).drop n = l.drop (p + n) := fun n => List.drop_drop
      have HX := Lib.hid (fun w1 => qhex_walk (byt l p) hb0 w1)
      have hxl : (hexb (byt l p)).length = 4 := rfl
      cases hf : fOk (l.drop p)
      · obtain ⟨e1, e2, e3⟩ := f_not hf
        rw [e1, e2, e3] at hF
        have hq : (out ++ hexb (byt l p)) ++ shown (l.drop (p + 1)) = shown l := by
          rw [← hp, hst]
          have h1 : pcT (l.drop p) = hexb (byt l p) := by unfold pcT; rw [hf, hbd]; rfl
          have h2 : pcN (l.drop p) = 1 := by unfold pcN; rw [hf]; rfl
          rw [h1, h2, hdd, List.append_assoc]
        have HQ := Lib.hid hq
        have HF := Lib.hid hF
        have HG := Lib.hid hg
        have HXL := Lib.hid hxl
        clear hF e1 e2 e3 hp hr hg hf hst hq hbd hdd hxl
        generalize hexb (byt l p) = X at *
        have hx4 : X.length ≤ 4 := Nat.le_of_eq HXL.out
        go_wp2_with fail
        refine HF.out.mono ?_
        rintro e w1 ⟨rfl, d1⟩
        have hb2 := hb.trans (d1.mono hb.size)
        clear d1 hb
        go_wp2_with fail
        refine (HX.out _).mono ?_
        rintro e w2 ⟨rfl, m2, rfl⟩
        have hb3 := Below_drewN hb2 m2
        clear hb2
        generalize w1.drewN m2 = w2 at hb3
        go_wp2
        go_roundg (l.length - (p + 1))
        case measure => have := HG.out; omega
        case rel => exact ⟨out ++ X, p + 1, HQ.out, by omega, rfl, rfl, by simp, hb3⟩
      · have hfl := fN_le hf
        have hE : fE (l.drop p) = 0 := by unfold fE; rw [hf]; rfl
        have hcl := ((isC_iff _).1 (of_first hf).1).1
        have hpc : ∀ X, pcT (l.drop p) = X → (out ++ X) ++ shown (l.drop (p + fN (l.drop p))) = shown l := by
          intro X hX
          rw [← hp, hst, hX, show pcN (l.drop p) = fN (l.drop p) by unfold pcN; rw [hf]; rfl, List.append_assoc, hdd]
        have hpt : pcT (l.drop p) = if ctl (fC (l.drop p)) then hexb (byt l p) else if fC (l.drop p) = 92 then [92, 92] else (l.drop p).take (fN (l.drop p)) := by unfold pcT; rw [hf, hbd]; rfl
        rw [hE] at hF
        generalize fC (l.drop p) = C at hF hpt hcl
        generalize fN (l.drop p) = N at hF hfl hpc hpt
        rw [List.length_drop] at hfl
        obtain ⟨n1, n4, nl⟩ := hfl
        have HF := Lib.hid hF
        have HG := Lib.hid hg
        have HPC := Lib.hid hpc
        have HXL := Lib.hid hxl
        clear hF hE hp hr hg hf hst hpc hbd hdd hxl
        cases hct : ctl C
        · rw [hct] at hpt
          have hcc : 32 ≤ C ∧ C ≠ 127 := by
            unfold ctl at hct
            simp only [Bool.or_eq_false_iff, decide_eq_false_iff_not, beq_eq_false_iff_ne] at hct
            omega
          obtain ⟨hc32, hc127⟩ := hcc
          have hb127 : (((C : Nat) : Int) == 127) = false := by rw [beq_eq_false_iff_ne]; omega
          by_cases h92 : C = 92
          · subst h92
            have HQ := Lib.hid (HPC.out [92, 92] (by rw [hpt]; rfl))
            clear hct hpt HPC hb127 hc127 hc32
            go_wp2_with fail
            refine HF.out.mono ?_
            rintro e w1 ⟨rfl, d1⟩
            have hb2 := hb.trans (d1.mono hb.size)
            clear d1 hb
            have hlit : bs out ++ ({ data := #[92, 92] } : ByteArray) = bs (out ++ [92, 92]) := bs_append out [92, 92]
            go_wp2
            go_roundg (l.length - (p + N))
            case measure => have := HG.out; omega
            case rel => exact ⟨out ++ [92, 92], p + N, HQ.out, by omega, rfl, rfl, by simp, hb2⟩
          · have HQ := Lib.hid (HPC.out ((l.drop p).take N) (by rw [hpt, if_neg h92]; rfl))
            have hc92 : (((C : Nat) : Int) == 92) = false := by rw [beq_eq_false_iff_ne]; omega
            clear hct hpt HPC h92 hc127
            go_wp2_with fail
            refine HF.out.mono ?_
            rintro e w1 ⟨rfl, d1⟩
            have hb2 := hb.trans (d1.mono hb.size)
            clear d1 hb
            have htn : ((l.drop p).take N).length ≤ 4 := by rw [List.length_take]; omega
            have hcr := cut_run l p N (by omega)
            go_wp2
            go_roundg (l.length - (p + N))
            case measure => have := HG.out; omega
            case rel => exact ⟨out ++ (l.drop p).take N, p + N, HQ.out, by omega, rfl, by simp, by simp, hb2⟩
        · rw [hct] at hpt
          have HQ := Lib.hid (HPC.out (hexb (byt l p)) (by rw [hpt]; rfl))
          have hcc : (C < 32) ∨ (32 ≤ C ∧ (((C : Nat) : Int) == 127) = true) := by
            unfold ctl at hct
            simp only [Bool.or_eq_true, decide_eq_true_eq, beq_iff_eq] at hct
            rcases hct with h | h
            · exact .inl h
            · exact .inr ⟨by omega, by rw [beq_iff_eq]; omega⟩
          clear hct hpt HPC
          generalize hexb (byt l p) = X at *
          have hx4 : X.length ≤ 4 := Nat.le_of_eq HXL.out
          rcases hcc with hc1 | ⟨hc1, hc2⟩
          all_goals
            go_wp2_with fail
            refine HF.out.mono ?_
            rintro e w1 ⟨rfl, d1⟩
            have hb2 := hb.trans (d1.mono hb.size)
            clear d1 hb
            go_wp2_with fail
            refine (HX.out _).mono ?_
            rintro e w2 ⟨rfl, m2, rfl⟩
            have hb3 := Below_drewN hb2 m2
            clear hb2
            generalize w1.drewN m2 = w2 at hb3
            go_wp2
            go_roundg (l.length - (p + N))
            case measure => have := HG.out; omega
            case rel => exact ⟨out ++ X, p + N, HQ.out, by omega, rfl, rfl, by simp, hb3⟩
    · obtain rfl : p = l.length := by omega
      have HP := Lib.hid (show shown l = out by rw [← hp, List.drop_length, shown_nil, List.append_nil])
      clear hp hg hlt
      go_wp2
      go_ret
      rw [HP.out]
      exact ⟨rfl, hb⟩
end Go.Proofs.YthmnfffloioagaaDoor
