/- Shown, the program's and the document's, walked. -/
import Derived.Test.YthmnfffloioagaaDoorUtfF
import Derived.Test.YthmnfffloioagaaDoorBld
import Derived.Outline
namespace Go.Proofs.YthmnfffloioagaaDoor
open Go.ChangeShapes Go.WideShapes Go.ChangeAt Go.RowKit K U4
set_option linter.unusedVariables false

theorem hex_get (d : Nat) (h : d < ({ data := #[48, 49, 50, 51, 52, 53, 54, 55, 56, 57, 97, 98, 99, 100, 101, 102] } : ByteArray).size) : ({ data := #[48, 49, 50, 51, 52, 53, 54, 55, 56, 57, 97, 98, 99, 100, 101, 102] } : ByteArray)[d]'h = hd d := by
  have h16 : ∀ i : Fin 16, (#[48, 49, 50, 51, 52, 53, 54, 55, 56, 57, 97, 98, 99, 100, 101, 102] : Array UInt8)[i.val]'(i.isLt) = hd i.val := by decide +kernel
  exact h16 ⟨d, h⟩
def ShRel (l : List UInt8) (w : World) (b g : Nat) (v0 : Value) (wr : World) : Prop :=
  ∃ out r, out ++ shown r = shown l ∧ r.length = g ∧ r.length ≤ l.length ∧ v0 = .string (bs r) ∧ Bld b b out wr ∧ Below b w wr
theorem Bld.fresh (w : World) : Bld w.heap.size w.heap.size [] (w.alloc (.cells #[.pointer none, .slice none 0 0] 55)) :=
  .inl ⟨Nat.le_refl _, _, rowNew w _, World.ownsRow_nil _ _ _ _, by simp [Value.ownBlock]⟩
set_option maxRecDepth 100000 in
set_option maxHeartbeats 2000000 in
theorem shown_walk (l : List UInt8) (hl : l.length ≤ 10000) (w : World) (ht : Leads w) :
    Calls Tryd.prog 19 #[.string (bs l)] w fun e w' => e = .returned (.string (bs (shown l))) ∧ Below w.heap.size w w' := by
  have hsl := shown_len l.length l (Nat.le_refl _)
  have hbf := Bld.fresh w
  go_enter Tryd.func19, Tryd.ntmps19
  go_wp2
  have hba : Below w.heap.size w (w.alloc (.cells #[.pointer none, .slice none 0 0] 55)) := (Below.refl _ _).alloc (Nat.le_refl _) _
  go_loopg [0] l.length (fun g v0 wr => ShRel l w w.heap.size g v0 wr)
  case atStart => exact ⟨[], l, rfl, rfl, Nat.le_refl _, rfl, hbf, hba⟩
  case round =>
    obtain ⟨out, r, hp, hg, hrl, rfl, hB, hb⟩ := hrel
    clear hbf hba
    have hol : out.length ≤ 4 * l.length := by
      have := congrArg List.length hp
      rw [List.length_append] at this; omega
    by_cases hr : r = []
    · subst hr
      have HP := Lib.hid (show shown l = out by rw [← hp, shown_nil, List.append_nil])
      clear hp hg hrl hsl
      go_wp2_with fail
      refine (bstr _ _ _ _ hB hb.size).mono ?_
      rintro e w1 ⟨rfl, b1⟩
      have hb2 := hb.trans b1
      clear b1
      go_wp2
      go_ret
      rw [HP.out]
      exact ⟨rfl, hb2⟩
    · have hne : r.isEmpty = false := List.isEmpty_eq_false_iff.2 hr
      have hpos : 0 < r.length := List.length_pos_iff.2 hr
      have hF := first_walk r (by omega) wr (ht.below hb)
      have hst := shown_step hr
      have hb0 := byt_lt r 0
      cases hf : fOk r
      · obtain ⟨e1, e2, e3⟩ := f_not hf
        rw [e1, e2, e3] at hF
        have hq : out ++ [92, 120] ++ [hd (byt r 0 / 16)] ++ [hd (byt r 0 % 16)] ++ shown (r.drop 1) = shown l := by
          rw [← hp, hst]
          have h1 : pcT r = hexb (byt r 0) := by unfold pcT; rw [hf]; rfl
          have h2 : pcN r = 1 := by unfold pcN; rw [hf]; rfl
          rw [h1, h2]
          simp [hexb]
        have HQ := Lib.hid hq
        have HF := Lib.hid hF
        have HG := Lib.hid hg
        clear hF e1 e2 e3 hp hr hg hf hst hq
        go_wp2_with fail
        refine HF.out.mono ?_
        rintro e w1 ⟨rfl, n1, rfl⟩
        have hbd := Below_drewN hb n1
        have hBd : Bld w.heap.size w.heap.size out (wr.drewN n1) := hB
        clear hB hb
        generalize wr.drewN n1 = w1 at hbd hBd
        go_wp2_with fail
        refine (wstr _ _ out [92, 120] _ hBd (by simp; omega) hbd.size).mono ?_
        rintro e w2 ⟨rfl, hB2, b2⟩
        have hbd2 := hbd.trans b2
        clear hBd b2 hbd
        go_wp2_with fail
        refine (wbyte _ _ (out ++ [92, 120]) _ _ hB2 (by simp; omega) hbd2.size).mono ?_
        rintro e w3 ⟨rfl, hB3, b3⟩
        rw [hex_get] at hB3
        have hbd3 := hbd2.trans b3
        clear hB2 b3 hbd2
        go_wp2_with fail
        refine (wbyte _ _ (out ++ [92, 120] ++ [hd (byt r 0 / 16)]) _ _ hB3 (by simp; omega) hbd3.size).mono ?_
        rintro e w4 ⟨rfl, hB4, b4⟩
        rw [hex_get] at hB4
        have hbd4 := hbd3.trans b4
        clear hB3 b4 hbd3
        go_wp2
        go_roundg (r.drop 1).length
        case measure => have := HG.out; rw [List.length_drop]; omega
        case rel => exact ⟨_, r.drop 1, HQ.out, rfl, by rw [List.length_drop]; omega, by simp, hB4, hbd4⟩
      · have hfl := fN_le hf
        have hE : fE r = 0 := by unfold fE; rw [hf]; rfl
        have hcl := ((isC_iff _).1 (of_first hf).1).1
        have hpc : ∀ X, pcT r = X → out ++ X ++ shown (r.drop (fN r)) = shown l := by
          intro X hX
          rw [← hp, hst, hX, show pcN r = fN r by unfold pcN; rw [hf]; rfl, List.append_assoc]
        have hpt : pcT r = if ctl (fC r) then hexb (byt r 0) else if fC r = 92 then [92, 92] else r.take (fN r) := by unfold pcT; rw [hf]; rfl
        rw [hE] at hF
        have hCt := fun w1 => ctl_walk (fC r) (by omega) w1
        generalize fC r = C at hF hCt hpt hcl
        generalize fN r = N at hF hfl hpc hpt
        obtain ⟨n1, n4, nl⟩ := hfl
        have HF := Lib.hid hF
        have HG := Lib.hid hg
        have HPC := Lib.hid hpc
        clear hF hE hp hr hg hf hst hpc
        cases hct : ctl C
        · rw [hct] at hCt hpt
          have HCT := Lib.hid hCt
          by_cases h92 : C = 92
          · subst h92
            have HQ := Lib.hid (HPC.out [92, 92] (by rw [hpt]; rfl))
            clear hCt hct hpt HPC
            go_wp2_with fail
            refine HF.out.mono ?_
            rintro e w1 ⟨rfl, m1, rfl⟩
            have hbd := Below_drewN hb m1
            have hBd : Bld w.heap.size w.heap.size out (wr.drewN m1) := hB
            clear hB hb
            generalize wr.drewN m1 = w1 at hbd hBd
            go_wp2_with fail
            refine (HCT.out _).mono ?_
            rintro e w1 ⟨rfl, rfl⟩
            go_wp2_with fail
            refine (wstr _ _ out [92, 92] _ hBd (by simp; omega) hbd.size).mono ?_
            rintro e w2 ⟨rfl, hB2, b2⟩
            have hbd2 := hbd.trans b2
            clear hBd b2 hbd
            go_wp2
            go_roundg (r.drop N).length
            case measure => have := HG.out; rw [List.length_drop]; omega
            case rel => exact ⟨_, r.drop N, HQ.out, rfl, by rw [List.length_drop]; omega, by simp, hB2, hbd2⟩
          · have HQ := Lib.hid (HPC.out (r.take N) (by rw [hpt, if_neg h92]; rfl))
            have hc92 : (((C : Nat) : Int) == 92) = false := by rw [beq_eq_false_iff_ne]; omega
            clear hCt hct hpt HPC h92
            go_wp2_with fail
            refine HF.out.mono ?_
            rintro e w1 ⟨rfl, m1, rfl⟩
            have hbd := Below_drewN hb m1
            have hBd : Bld w.heap.size w.heap.size out (wr.drewN m1) := hB
            clear hB hb
            generalize wr.drewN m1 = w1 at hbd hBd
            go_wp2_with fail
            refine (HCT.out _).mono ?_
            rintro e w1 ⟨rfl, rfl⟩
            go_wp2_with fail
            refine (wstr _ _ out (r.take N) _ hBd (by rw [List.length_take]; omega) hbd.size).mono ?_
            rintro e w2 ⟨rfl, hB2, b2⟩
            have hbd2 := hbd.trans b2
            clear hBd b2 hbd
            go_wp2
            go_roundg (r.drop N).length
            case measure => have := HG.out; rw [List.length_drop]; omega
            case rel => exact ⟨_, r.drop N, HQ.out, rfl, by rw [List.length_drop]; omega, by simp, hB2, hbd2⟩
        · rw [hct] at hCt hpt
          have HCT := Lib.hid hCt
          have hq : out ++ [92, 120] ++ [hd (byt r 0 / 16)] ++ [hd (byt r 0 % 16)] ++ shown (r.drop N) = shown l := by
            rw [← HPC.out (hexb (byt r 0)) (by rw [hpt]; rfl)]
            simp [hexb]
          have HQ := Lib.hid hq
          clear hCt hct hpt HPC hq
          go_wp2_with fail
          refine HF.out.mono ?_
          rintro e w1 ⟨rfl, m1, rfl⟩
          have hbd := Below_drewN hb m1
          have hBd : Bld w.heap.size w.heap.size out (wr.drewN m1) := hB
          clear hB hb
          generalize wr.drewN m1 = w1 at hbd hBd
          go_wp2_with fail
          refine (HCT.out _).mono ?_
          rintro e w1 ⟨rfl, rfl⟩
          go_wp2_with fail
          refine (wstr _ _ out [92, 120] _ hBd (by simp; omega) hbd.size).mono ?_
          rintro e w2 ⟨rfl, hB2, b2⟩
          have hbd2 := hbd.trans b2
          clear hBd b2 hbd
          go_wp2_with fail
          refine (wbyte _ _ (out ++ [92, 120]) _ _ hB2 (by simp; omega) hbd2.size).mono ?_
          rintro e w3 ⟨rfl, hB3, b3⟩
          rw [hex_get] at hB3
          have hbd3 := hbd2.trans b3
          clear hB2 b3 hbd2
          go_wp2_with fail
          refine (wbyte _ _ (out ++ [92, 120] ++ [hd (byt r 0 / 16)]) _ _ hB3 (by simp; omega) hbd3.size).mono ?_
          rintro e w4 ⟨rfl, hB4, b4⟩
          rw [hex_get] at hB4
          have hbd4 := hbd3.trans b4
          clear hB3 b4 hbd3
          go_wp2
          go_roundg (r.drop N).length
          case measure => have := HG.out; rw [List.length_drop]; omega
          case rel => exact ⟨_, r.drop N, HQ.out, rfl, by rw [List.length_drop]; omega, by simp, hB4, hbd4⟩
end Go.Proofs.YthmnfffloioagaaDoor
