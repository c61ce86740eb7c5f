/- Texts on the program and on the document, joined: Bld, UtfG, UtfH. -/
import Derived.Test.YtkmfcnilbmckmaaGreatDoorMa23
import Derived.Test.YtkmfcnilbmckmaaGreatDoorMa32
import Derived.Outline
/- strings.Builder's WriteByte, walked at this translation. -/
namespace Go.Proofs.YtkmfcnilbmckmaaGreatDoor
open Go.ChangeShapes Go.WideShapes Go.ChangeAt Go.RowKit K
set_option linter.unusedVariables false

set_option maxHeartbeats 2000000 in
set_option maxRecDepth 100000 in
theorem wbyte (B b : Nat) (l : List UInt8) (c : UInt8) (w : World) (h : Bld B b l w) (hlen : l.length + 1 ≤ 140737488355328) (hBw : B ≤ w.heap.size) :
    Calls Tryz.prog 66 #[.pointer (some ⟨b, 0, none⟩), .int .u8 (c.toNat : Nat)] w fun e w' => e = .returned .nilIface ∧ (Bld B b (l ++ [c]) w' ∧ Below B w w') := by
  unfold Bld at h
  have hlc := cells_len l
  obtain ⟨i0, hi, hz0, hz1, hz2⟩ := info_parts info_u
  have hcells : Lib.byteCells (l ++ [c]) = Lib.byteCells l ++ [.int .u8 (c.toNat : Nat)] := by rw [cells_app]; rfl
  have HCL := Lib.hid hcells
  have HB := Lib.hid (show ∀ w', Bld B b (l ++ [c]) w' = Lib.IsBuilder 75 5 B b (Lib.byteCells (l ++ [c])) w' from fun _ => rfl)
  generalize Lib.byteCells l = cs at *
  have hl2 : cs.length + 1 ≤ 140737488355328 := by omega
  clear hcells hlc
  generalize Lib.byteCells (l ++ [c]) = ds at *
  have hc0 : (0 : Int) ≤ (c.toNat : Nat) := by omega
  generalize ((c.toNat : Nat) : Int) = z at *
  go_enter Tryz.func66, Tryz.ntmps66
  go_wp2_with (go_at_call 99; refine (check_any B b cs _ h).mono ?_)
  rintro e w1 ⟨rfl, h1, hb1, -⟩
  obtain ⟨hB, v, hbk, hown, hne⟩ := h1
  have c0 : w1.cell? ⟨b, 0, none⟩ = some (.pointer (some ⟨b, 0, none⟩)) := by rw [Lib.cell_of_heap hbk]; rfl
  have c1 : w1.cell? ⟨b, 1, none⟩ = some v := by rw [Lib.cell_of_heap hbk]; rfl
  go_wp2_with (at_builtin; refine wpList_append_own _ rfl _ _ 53 rfl B 5 i0 (.int .u8 0) 1 1 Tryz.underlying53 hi hz0 hz1 hz2 rfl (by decide) _ _ _ rfl (hown.alloc _) ⟨w1.heap.size, 0, none⟩ 1 1 [.int .u8 z] rfl rfl ?c1 ?c2 ?c3 ?c4 ?c5 ?_)
  case c1 =>
    intro j u hj
    match j, hj with
    | 0, hj => simp at hj; subst hj; simp [Addr.add]
  case c2 => intro u hu; simp at hu; subst hu; rfl
  case c3 => unfold maxLen; omega
  case c4 => omega
  case c5 => have := hb1.size; simp; omega
  intro v' w2 hown' hgrow _
  have hlt : b < w1.heap.size := lt_of_block hbk
  have hb2 : w2.heap[b]? = some (.cells #[.pointer (some ⟨b, 0, none⟩), v] 75 (0, 0)) := by
    rw [hgrow.block b (by simp; omega) (fun e => hne e.symm), Lib.alloc_old w1 _ b hlt]
    exact hbk
  have d0 : w2.cell? ⟨b, 0, none⟩ = some (.pointer (some ⟨b, 0, none⟩)) := by rw [Lib.cell_of_heap hb2]; rfl
  have d1 : w2.cell? ⟨b, 1, none⟩ = some v := by rw [Lib.cell_of_heap hb2]; rfl
  have f1 : w2.frozen? ⟨b, 1, none⟩ = false := Lib.frozen_of_heap hb2 1
  obtain ⟨g, cap, rfl⟩ : ∃ g cap, v' = .slice (some ⟨g, 0, none⟩) (cs.length + 1) cap := by
    rcases hown'.2 with ⟨_, h0⟩ | ⟨g, cap, cur, hv, _⟩
    · omega
    · exact ⟨g, cap, hv⟩
  go_wp2
  go_ret
  refine ⟨rfl, ?_, ?_⟩
  · rw [HB.out, HCL.out]
    exact .inr (Lib.BuilderAt.put (T := 75) (e := 5) hB hb2 (bs' := cs ++ [.int .u8 z]) (by simpa using hown') (by decide))
  · exact ((hb1.alloc (by have := hb1.size; omega) _).grown hgrow (by have := hb1.size; simp; omega) (fun k hk => (hown.lt k hk).1)).setCell (p := ⟨b, 1, none⟩) hB _
theorem wstrB (B b : Nat) (l s : List UInt8) (w : World) (h : Bld B b l w) (hlen : l.length + s.length ≤ 140737488355328) (hBw : B ≤ w.heap.size) :
    Calls Tryz.prog 65 #[.pointer (some ⟨b, 0, none⟩), .string (bs s)] w fun e w' => e = .returned (.tuple #[.int .i64 (s.length : Nat), .nilIface]) ∧ (Bld B b (l ++ s) w' ∧ Below B w w') :=
  (wstr B b l s w h hlen hBw).mono fun e w' h => ⟨h.1, h.2.1, h.2.2.1⟩
end Go.Proofs.YtkmfcnilbmckmaaGreatDoor
/- Shown, the program's and the document's, walked. -/
namespace Go.Proofs.YtkmfcnilbmckmaaGreatDoor
open Go.ChangeShapes Go.WideShapes Go.ChangeAt Go.RowKit K U4
set_option linter.unusedVariables false

theorem hex_get (d : Nat) (h : d < ({ data := #[48, 49, 50, 51, 52, 53, 54, 55, 56, 57, 97, 98, 99, 100, 101, 102] } : ByteArray).size) : ({ data := #[48, 49, 50, 51, 52, 53, 54, 55, 56, 57, 97, 98, 99, 100, 101, 102] } : ByteArray)[d]'h = hd d := by
  have h16 : ∀ i : Fin 16, (#[48, 49, 50, 51, 52, 53, 54, 55, 56, 57, 97, 98, 99, 100, 101, 102] : Array UInt8)[i.val]'(i.isLt) = hd i.val := by decide +kernel
  exact h16 ⟨d, h⟩
def ShRel (l : List UInt8) (w : World) (b g : Nat) (v0 : Value) (wr : World) : Prop :=
  ∃ out r, out ++ shown r = shown l ∧ r.length = g ∧ r.length ≤ l.length ∧ v0 = .string (bs r) ∧ Bld b b out wr ∧ Below b w wr
theorem Bld.fresh (w : World) : Bld w.heap.size w.heap.size [] (w.alloc (.cells #[.pointer none, .slice none 0 0] 75)) :=
  .inl ⟨Nat.le_refl _, _, rowNew w _, World.ownsRow_nil _ _ _ _, by simp [Value.ownBlock]⟩
set_option maxRecDepth 100000 in
set_option maxHeartbeats 2000000 in
theorem shown_walk (l : List UInt8) (hl : l.length ≤ 10000) (w : World) (ht : Leads w) :
    Calls Tryz.prog 30 #[.string (bs l)] w fun e w' => e = .returned (.string (bs (shown l))) ∧ Below w.heap.size w w' := by
  have hsl := shown_len l.length l (Nat.le_refl _)
  have hbf := Bld.fresh w
  go_enter Tryz.func30, Tryz.ntmps30
  go_wp2
  have hba : Below w.heap.size w (w.alloc (.cells #[.pointer none, .slice none 0 0] 75)) := (Below.refl _ _).alloc (Nat.le_refl _) _
  go_loopg [0] l.length (fun g v0 wr => ShRel l w w.heap.size g v0 wr)
  case atStart => exact ⟨[], l, rfl, rfl, Nat.le_refl _, rfl, hbf, hba⟩
  case round =>
    obtain ⟨out, r, hp, hg, hrl, rfl, hB, hb⟩ := hrel
    clear hbf hba
    have hol : out.length ≤ 4 * l.length := by
      have := congrArg List.length hp
      rw [List.length_append] at this; omega
    by_cases hr : r = []
    · subst hr
      have HP := Lib.hid (show shown l = out by rw [← hp, shown_nil, List.append_nil])
      clear hp hg hrl hsl
      go_wp2_with fail
      refine (bstr _ _ _ _ hB hb.size).mono ?_
      rintro e w1 ⟨rfl, b1⟩
      have hb2 := hb.trans b1
      clear b1
      go_wp2
      go_ret
      rw [HP.out]
      exact ⟨rfl, hb2⟩
    · have hne : r.isEmpty = false := List.isEmpty_eq_false_iff.2 hr
      have hpos : 0 < r.length := List.length_pos_iff.2 hr
      have hF := first_walk r (by omega) wr (ht.below hb)
      have hst := shown_step hr
      have hb0 := byt_lt r 0
      cases hf : fOk r
      · obtain ⟨e1, e2, e3⟩ := f_not hf
        rw [e1, e2, e3] at hF
        have hq : out ++ [92, 120] ++ [hd (byt r 0 / 16)] ++ [hd (byt r 0 % 16)] ++ shown (r.drop 1) = shown l := by
          rw [← hp, hst]
          have h1 : pcT r = hexb (byt r 0) := by unfold pcT; rw [hf]; rfl
          have h2 : pcN r = 1 := by unfold pcN; rw [hf]; rfl
          rw [h1, h2]
          simp [hexb]
        have HQ := Lib.hid hq
        have HF := Lib.hid hF
        have HG := Lib.hid hg
        clear hF e1 e2 e3 hp hr hg hf hst hq
        go_wp2_with fail
        refine HF.out.mono ?_
        rintro e w1 ⟨rfl, n1, rfl⟩
        have hbd := Below_drewN hb n1
        have hBd : Bld w.heap.size w.heap.size out (wr.drewN n1) := hB
        clear hB hb
        generalize wr.drewN n1 = w1 at hbd hBd
        go_wp2_with fail
        refine (wstrB _ _ out [92, 120] _ hBd (by simp; omega) hbd.size).mono ?_
        rintro e w2 ⟨rfl, hB2, b2⟩
        have hbd2 := hbd.trans b2
        clear hBd b2 hbd
        go_wp2_with fail
        refine (wbyte _ _ (out ++ [92, 120]) _ _ hB2 (by simp; omega) hbd2.size).mono ?_
        rintro e w3 ⟨rfl, hB3, b3⟩
        rw [hex_get] at hB3
        have hbd3 := hbd2.trans b3
        clear hB2 b3 hbd2
        go_wp2_with fail
        refine (wbyte _ _ (out ++ [92, 120] ++ [hd (byt r 0 / 16)]) _ _ hB3 (by simp; omega) hbd3.size).mono ?_
        rintro e w4 ⟨rfl, hB4, b4⟩
        rw [hex_get] at hB4
        have hbd4 := hbd3.trans b4
        clear hB3 b4 hbd3
        go_wp2
        go_roundg (r.drop 1).length
        case measure => have := HG.out; rw [List.length_drop]; omega
        case rel => exact ⟨_, r.drop 1, HQ.out, rfl, by rw [List.length_drop]; omega, by simp, hB4, hbd4⟩
      · have hfl := fN_le hf
        have hE : fE r = 0 := by unfold fE; rw [hf]; rfl
        have hcl := ((isC_iff _).1 (of_first hf).1).1
        have hpc : ∀ X, pcT r = X → out ++ X ++ shown (r.drop (fN r)) = shown l := by
          intro X hX
          rw [← hp, hst, hX, show pcN r = fN r by unfold pcN; rw [hf]; rfl, List.append_assoc]
        have hpt : pcT r = if ctl (fC r) then hexb (byt r 0) else if fC r = 92 then [92, 92] else r.take (fN r) := by unfold pcT; rw [hf]; rfl
        rw [hE] at hF
        have hCt := fun w1 => ctl_walk (fC r) (by omega) w1
        generalize fC r = C at hF hCt hpt hcl
        generalize fN r = N at hF hfl hpc hpt
        obtain ⟨n1, n4, nl⟩ := hfl
        have HF := Lib.hid hF
        have HG := Lib.hid hg
        have HPC := Lib.hid hpc
        clear hF hE hp hr hg hf hst hpc
        cases hct : ctl C
        · rw [hct] at hCt hpt
          have HCT := Lib.hid hCt
          by_cases h92 : C = 92
          · subst h92
            have HQ := Lib.hid (HPC.out [92, 92] (by rw [hpt]; rfl))
            clear hCt hct hpt HPC
            go_wp2_with fail
            refine HF.out.mono ?_
            rintro e w1 ⟨rfl, m1, rfl⟩
            have hbd := Below_drewN hb m1
            have hBd : Bld w.heap.size w.heap.size out (wr.drewN m1) := hB
            clear hB hb
            generalize wr.drewN m1 = w1 at hbd hBd
            go_wp2_with fail
            refine (HCT.out _).mono ?_
            rintro e w1 ⟨rfl, rfl⟩
            go_wp2_with fail
            refine (wstrB _ _ out [92, 92] _ hBd (by simp; omega) hbd.size).mono ?_
            rintro e w2 ⟨rfl, hB2, b2⟩
            have hbd2 := hbd.trans b2
            clear hBd b2 hbd
            go_wp2
            go_roundg (r.drop N).length
            case measure => have := HG.out; rw [List.length_drop]; omega
            case rel => exact ⟨_, r.drop N, HQ.out, rfl, by rw [List.length_drop]; omega, by simp, hB2, hbd2⟩
          · have HQ := Lib.hid (HPC.out (r.take N) (by rw [hpt, if_neg h92]; rfl))
            have hc92 : (((C : Nat) : Int) == 92) = false := by rw [beq_eq_false_iff_ne]; omega
            clear hCt hct hpt HPC h92
            go_wp2_with fail
            refine HF.out.mono ?_
            rintro e w1 ⟨rfl, m1, rfl⟩
            have hbd := Below_drewN hb m1
            have hBd : Bld w.heap.size w.heap.size out (wr.drewN m1) := hB
            clear hB hb
            generalize wr.drewN m1 = w1 at hbd hBd
            go_wp2_with fail
            refine (HCT.out _).mono ?_
            rintro e w1 ⟨rfl, rfl⟩
            go_wp2_with fail
            refine (wstrB _ _ out (r.take N) _ hBd (by rw [List.length_take]; omega) hbd.size).mono ?_
            rintro e w2 ⟨rfl, hB2, b2⟩
            have hbd2 := hbd.trans b2
            clear hBd b2 hbd
            go_wp2
            go_roundg (r.drop N).length
            case measure => have := HG.out; rw [List.length_drop]; omega
            case rel => exact ⟨_, r.drop N, HQ.out, rfl, by rw [List.length_drop]; omega, by simp, hB2, hbd2⟩
        · rw [hct] at hCt hpt
          have HCT := Lib.hid hCt
          have hq : out ++ [92, 120] ++ [hd (byt r 0 / 16)] ++ [hd (byt r 0 % 16)] ++ shown (r.drop N) = shown l := by
            rw [← HPC.out (hexb (byt r 0)) (by rw [hpt]; rfl)]
            simp [hexb]
          have HQ := Lib.hid hq
          clear hCt hct hpt HPC hq
          go_wp2_with fail
          refine HF.out.mono ?_
          rintro e w1 ⟨rfl, m1, rfl⟩
          have hbd := Below_drewN hb m1
          have hBd : Bld w.heap.size w.heap.size out (wr.drewN m1) := hB
          clear hB hb
          generalize wr.drewN m1 = w1 at hbd hBd
          go_wp2_with fail
          refine (HCT.out _).mono ?_
          rintro e w1 ⟨rfl, rfl⟩
          go_wp2_with fail
          refine (wstrB _ _ out [92, 120] _ hBd (by simp; omega) hbd.size).mono ?_
          rintro e w2 ⟨rfl, hB2, b2⟩
          have hbd2 := hbd.trans b2
          clear hBd b2 hbd
          go_wp2_with fail
          refine (wbyte _ _ (out ++ [92, 120]) _ _ hB2 (by simp; omega) hbd2.size).mono ?_
          rintro e w3 ⟨rfl, hB3, b3⟩
          rw [hex_get] at hB3
          have hbd3 := hbd2.trans b3
          clear hB2 b3 hbd2
          go_wp2_with fail
          refine (wbyte _ _ (out ++ [92, 120] ++ [hd (byt r 0 / 16)]) _ _ hB3 (by simp; omega) hbd3.size).mono ?_
          rintro e w4 ⟨rfl, hB4, b4⟩
          rw [hex_get] at hB4
          have hbd4 := hbd3.trans b4
          clear hB3 b4 hbd3
          go_wp2
          go_roundg (r.drop N).length
          case measure => have := HG.out; rw [List.length_drop]; omega
          case rel => exact ⟨_, r.drop N, HQ.out, rfl, by rw [List.length_drop]; omega, by simp, hB4, hbd4⟩
end Go.Proofs.YtkmfcnilbmckmaaGreatDoor
/- The document's Shown, walked. -/
namespace Go.Proofs.YtkmfcnilbmckmaaGreatDoor
open Go.ChangeShapes Go.WideShapes Go.ChangeAt Go.RowKit K U4
set_option linter.unusedVariables false

def hexA : ByteArray := { data := #[48, 49, 50, 51, 52, 53, 54, 55, 56, 57, 97, 98, 99, 100, 101, 102] }
theorem hex_cut (d : Nat) (h : d < 16) : ({ data := #[48, 49, 50, 51, 52, 53, 54, 55, 56, 57, 97, 98, 99, 100, 101, 102] } : ByteArray).extract d (d + 1) = bs [hd d] := by
  obtain rfl | rfl | rfl | rfl | rfl | rfl | rfl | rfl | rfl | rfl | rfl | rfl | rfl | rfl | rfl | rfl : d = 0 ∨ d = 1 ∨ d = 2 ∨ d = 3 ∨ d = 4 ∨ d = 5 ∨ d = 6 ∨ d = 7 ∨ d = 8 ∨ d = 9 ∨ d = 10 ∨ d = 11 ∨ d = 12 ∨ d = 13 ∨ d = 14 ∨ d = 15 := by omega
  all_goals rfl
theorem hex_slice (d : Nat) (h : d < 16) : ∀ w, (Instr.slice 9 (.string { data := #[48, 49, 50, 51, 52, 53, 54, 55, 56, 57, 97, 98, 99, 100, 101, 102] }) (some (.int .u8 (d : Nat))) (some (.int .u8 ((d : Int) + 1))) none).run Tryz.prog w = .ok (.string (bs [hd d])) w := by
  intro w
  rw [run_slice_string w 9 _ .u8 .u8 _ _ Tryz.underlying9 (by omega) (by omega) (by show (d : Int) + 1 ≤ (16 : Int); omega)]
  rw [show ((d : Nat) : Int).toNat = d by omega, show ((d : Int) + 1).toNat = d + 1 by omega, hex_cut d h]
theorem lit_app (x : UInt8) : ({ data := #[92, 120] } : ByteArray) ++ bs [x] = bs [92, 120, x] := by
  show bs [92, 120] ++ bs [x] = _
  rw [bs_append]; rfl
set_option maxRecDepth 100000 in
theorem qhex_walk (b : Nat) (hb : b < 256) (w : World) :
    Calls Tryz.prog 70 #[.int .u8 b] w fun e w' => e = .returned (.string (bs (hexb b))) ∧ Dr w w' := by
  have e1 : IntKind.u8.wrap ((b : Int) / 16) = ((b / 16 : Nat) : Int) := by rw [IntWalk.u8_in _ (by omega)]; omega
  have e2 : IntKind.u8.wrap ((b : Int) % 16) = ((b % 16 : Nat) : Int) := by rw [IntWalk.u8_in _ (by omega)]; omega
  have e3 : (b : Int).tmod 16 = ((b % 16 : Nat) : Int) := by rw [IntWalk.rem_in _ _ (by omega)]; omega
  have h1 : b / 16 < 16 := by omega
  have h2 : b % 16 < 16 := by omega
  have sl1 := hex_slice (b / 16) h1
  have sl2 := hex_slice (b % 16) h2
  have la := lit_app (hd (b / 16))
  have hh : hexb b = [92, 120, hd (b / 16)] ++ [hd (b % 16)] := rfl
  have HH := Lib.hid hh
  clear hh
  generalize b / 16 = p at *
  generalize b % 16 = q at *
  have e4 : IntKind.u8.wrap (q : Int) = (q : Int) := IntWalk.u8_in _ (by omega)
  have s1 : IntKind.u8.wrap ((p : Int) + 1) = (p : Int) + 1 := IntWalk.u8_in _ (by omega)
  have s2 : IntKind.u8.wrap ((q : Int) + 1) = (q : Int) + 1 := IntWalk.u8_in _ (by omega)
  go_enter Tryz.func70, Tryz.ntmps70
  go_wp2_with fail
  go_quiet (fail)
  go_wp2
  go_ret
  rw [HH.out]
  exact ⟨rfl, nq, rfl⟩
theorem cut_run (l : List UInt8) (p n : Nat) (h : p + n ≤ l.length) : ∀ w, (Instr.slice 9 (.string (bs l)) (some (.int .i64 (p : Nat))) (some (.int .i64 ((p : Int) + (n : Int)))) none).run Tryz.prog w = .ok (.string (bs ((l.drop p).take n))) w := by
  intro w
  rw [run_slice_string w 9 _ .i64 .i64 _ _ Tryz.underlying9 (by omega) (by omega) (by rw [bs_size]; omega)]
  rw [show ((p : Nat) : Int).toNat = p by omega, show ((p : Int) + (n : Int)).toNat = p + n by omega, bs_extract, Nat.add_sub_cancel_left]
theorem byt_drop (l : List UInt8) (p : Nat) : byt (l.drop p) 0 = byt l p := by simp [byt]
def SqRel (l : List UInt8) (w : World) (g : Nat) (v3 v4 : Value) (wr : World) : Prop :=
  ∃ out p, out ++ shown (l.drop p) = shown l ∧ p ≤ l.length ∧ l.length - p = g ∧ v3 = .string (bs out) ∧ v4 = .int .i64 (p : Nat) ∧ Below w.heap.size w wr
set_option maxRecDepth 100000 in
set_option maxHeartbeats 2000000 in
theorem qshown_walk (l : List UInt8) (hl : l.length ≤ 10000) (w : World) :
    Calls Tryz.prog 34 #[.string (bs l)] w fun e w' => e = .returned (.string (bs (shown l))) ∧ Below w.heap.size w w' := by
  have hsl := shown_len l.length l (Nat.le_refl _)
  go_enter Tryz.func34, Tryz.ntmps34
  go_wp2
  go_loopg [3, 4] l.length (fun g v3 v4 wr => SqRel l w g v3 v4 wr)
  case atStart => exact ⟨[], 0, rfl, by omega, rfl, rfl, rfl, Below.refl _ _⟩
  case round =>
    obtain ⟨out, p, hp, hpl, hg, rfl, rfl, hb⟩ := hrel
    have hol : out.length ≤ 4 * l.length := by
      have := congrArg List.length hp
      rw [List.length_append] at this; omega
    clear hsl
    by_cases hlt : p < l.length
    · have hr := drop_ne hlt
      have hF := qfirst_walk (l.drop p) (by rw [List.length_drop]; omega) wr
      have hst := shown_step hr
      have hb0 := byt_lt l p
      have hbd := byt_drop l p
      have hdd : ∀ n, (l.drop p).drop n = l.drop (p + n) := fun n => List.drop_drop
      have HX := Lib.hid (fun w1 => qhex_walk (byt l p) hb0 w1)
      have hxl : (hexb (byt l p)).length = 4 := rfl
      cases hf : fOk (l.drop p)
      · obtain ⟨e1, e2, e3⟩ := f_not hf
        rw [e1, e2, e3] at hF
        have hq : (out ++ hexb (byt l p)) ++ shown (l.drop (p + 1)) = shown l := by
          rw [← hp, hst]
          have h1 : pcT (l.drop p) = hexb (byt l p) := by unfold pcT; rw [hf, hbd]; rfl
          have h2 : pcN (l.drop p) = 1 := by unfold pcN; rw [hf]; rfl
          rw [h1, h2, hdd, List.append_assoc]
        have HQ := Lib.hid hq
        have HF := Lib.hid hF
        have HG := Lib.hid hg
        have HXL := Lib.hid hxl
        clear hF e1 e2 e3 hp hr hg hf hst hq hbd hdd hxl
        generalize hexb (byt l p) = X at *
        have hx4 : X.length ≤ 4 := Nat.le_of_eq HXL.out
        go_wp2_with fail
        refine HF.out.mono ?_
        rintro e w1 ⟨rfl, d1⟩
        have hb2 := hb.trans (d1.mono hb.size)
        clear d1 hb
        go_wp2_with fail
        refine (HX.out _).mono ?_
        rintro e w2 ⟨rfl, m2, rfl⟩
        have hb3 := Below_drewN hb2 m2
        clear hb2
        generalize w1.drewN m2 = w2 at hb3
        go_wp2
        go_roundg (l.length - (p + 1))
        case measure => have := HG.out; omega
        case rel => exact ⟨out ++ X, p + 1, HQ.out, by omega, rfl, rfl, by simp, hb3⟩
      · have hfl := fN_le hf
        have hE : fE (l.drop p) = 0 := by unfold fE; rw [hf]; rfl
        have hcl := ((isC_iff _).1 (of_first hf).1).1
        have hpc : ∀ X, pcT (l.drop p) = X → (out ++ X) ++ shown (l.drop (p + fN (l.drop p))) = shown l := by
          intro X hX
          rw [← hp, hst, hX, show pcN (l.drop p) = fN (l.drop p) by unfold pcN; rw [hf]; rfl, List.append_assoc, hdd]
        have hpt : pcT (l.drop p) = if ctl (fC (l.drop p)) then hexb (byt l p) else if fC (l.drop p) = 92 then [92, 92] else (l.drop p).take (fN (l.drop p)) := by unfold pcT; rw [hf, hbd]; rfl
        rw [hE] at hF
        generalize fC (l.drop p) = C at hF hpt hcl
        generalize fN (l.drop p) = N at hF hfl hpc hpt
        rw [List.length_drop] at hfl
        obtain ⟨n1, n4, nl⟩ := hfl
        have HF := Lib.hid hF
        have HG := Lib.hid hg
        have HPC := Lib.hid hpc
        have HXL := Lib.hid hxl
        clear hF hE hp hr hg hf hst hpc hbd hdd hxl
        cases hct : ctl C
        · rw [hct] at hpt
          have hcc : 32 ≤ C ∧ C ≠ 127 := by
            unfold ctl at hct
            simp only [Bool.or_eq_false_iff, decide_eq_false_iff_not, beq_eq_false_iff_ne] at hct
            omega
          obtain ⟨hc32, hc127⟩ := hcc
          have hb127 : (((C : Nat) : Int) == 127) = false := by rw [beq_eq_false_iff_ne]; omega
          by_cases h92 : C = 92
          · subst h92
            have HQ := Lib.hid (HPC.out [92, 92] (by rw [hpt]; rfl))
            clear hct hpt HPC hb127 hc127 hc32
            go_wp2_with fail
            refine HF.out.mono ?_
            rintro e w1 ⟨rfl, d1⟩
            have hb2 := hb.trans (d1.mono hb.size)
            clear d1 hb
            have hlit : bs out ++ ({ data := #[92, 92] } : ByteArray) = bs (out ++ [92, 92]) := bs_append out [92, 92]
            go_wp2
            go_roundg (l.length - (p + N))
            case measure => have := HG.out; omega
            case rel => exact ⟨out ++ [92, 92], p + N, HQ.out, by omega, rfl, rfl, by simp, hb2⟩
          · have HQ := Lib.hid (HPC.out ((l.drop p).take N) (by rw [hpt, if_neg h92]; rfl))
            have hc92 : (((C : Nat) : Int) == 92) = false := by rw [beq_eq_false_iff_ne]; omega
            clear hct hpt HPC h92 hc127
            go_wp2_with fail
            refine HF.out.mono ?_
            rintro e w1 ⟨rfl, d1⟩
            have hb2 := hb.trans (d1.mono hb.size)
            clear d1 hb
            have htn : ((l.drop p).take N).length ≤ 4 := by rw [List.length_take]; omega
            have hcr := cut_run l p N (by omega)
            go_wp2
            go_roundg (l.length - (p + N))
            case measure => have := HG.out; omega
            case rel => exact ⟨out ++ (l.drop p).take N, p + N, HQ.out, by omega, rfl, by simp, by simp, hb2⟩
        · rw [hct] at hpt
          have HQ := Lib.hid (HPC.out (hexb (byt l p)) (by rw [hpt]; rfl))
          have hcc : (C < 32) ∨ (32 ≤ C ∧ (((C : Nat) : Int) == 127) = true) := by
            unfold ctl at hct
            simp only [Bool.or_eq_true, decide_eq_true_eq, beq_iff_eq] at hct
            rcases hct with h | h
            · exact .inl h
            · exact .inr ⟨by omega, by rw [beq_iff_eq]; omega⟩
          clear hct hpt HPC
          generalize hexb (byt l p) = X at *
          have hx4 : X.length ≤ 4 := Nat.le_of_eq HXL.out
          rcases hcc with hc1 | ⟨hc1, hc2⟩
          all_goals
            go_wp2_with fail
            refine HF.out.mono ?_
            rintro e w1 ⟨rfl, d1⟩
            have hb2 := hb.trans (d1.mono hb.size)
            clear d1 hb
            go_wp2_with fail
            refine (HX.out _).mono ?_
            rintro e w2 ⟨rfl, m2, rfl⟩
            have hb3 := Below_drewN hb2 m2
            clear hb2
            generalize w1.drewN m2 = w2 at hb3
            go_wp2
            go_roundg (l.length - (p + N))
            case measure => have := HG.out; omega
            case rel => exact ⟨out ++ X, p + N, HQ.out, by omega, rfl, rfl, by simp, hb3⟩
    · obtain rfl : p = l.length := by omega
      have HP := Lib.hid (show shown l = out by rw [← hp, List.drop_length, shown_nil, List.append_nil])
      clear hp hg hlt
      go_wp2
      go_ret
      rw [HP.out]
      exact ⟨rfl, hb⟩
end Go.Proofs.YtkmfcnilbmckmaaGreatDoor
