/- FrameBack, walked on calls that keep their word. -/
import Derived.Test.YtndinelljmjfaaaDoorFrmC
namespace Go.Proofs.YtndinelljmjfaaaDoor
open Go.ChangeShapes Go.WideShapes Go.ChangeAt Go.RowKit K F12
set_option linter.unusedVariables false

theorem alloc_s (w : World) (o : Obj) : Below w.heap.size w (w.alloc o) := (Below.refl _ _).alloc (Nat.le_refl _) _
theorem dec_len3 (n : Nat) (h : n < 1000) : (Lib.decDigits n).length ≤ 3 := by
  by_cases h1 : n < 10
  · rw [dec1 n h1]; simp
  rw [dec2 n h1, List.length_append]
  by_cases h2 : n / 10 < 10
  · rw [dec1 _ h2]; simp
  rw [dec2 _ h2, List.length_append]
  by_cases h3 : n / 10 / 10 < 10
  · rw [dec1 _ h3]; simp
  · omega
theorem frm_len (m : List UInt8) (h : m.length ≤ 200) : (frm m).length ≤ 204 := by
  have := dec_len3 m.length (by omega)
  unfold frm
  simp only [List.length_append, List.length_cons]
  omega
theorem frs_len : ∀ (ms : List (List UInt8)), (∀ m ∈ ms, 1 ≤ m.length ∧ m.length ≤ 200) → ((ms.map frm).flatten).length ≤ 204 * ms.length
  | [], _ => by simp
  | m :: ms, h => by
    have h0 := frm_len m (h m (by simp)).2
    have ih := frs_len ms (fun x hx => h x (by simp [hx]))
    simp only [List.map_cons, List.flatten_cons, List.length_append, List.length_cons]
    omega
theorem frs_snoc (ms : List (List UInt8)) (m : List UInt8) : (((ms ++ [m]).map frm).flatten) = (ms.map frm).flatten ++ frm m := by simp
theorem frS_one {m : List UInt8} (h1 : 1 ≤ m.length) (h2 : m.length ≤ 65535) : frS m = frm m ∧ frE m = 0 := by
  unfold frS frE
  rw [if_neg (by omega), if_neg (by omega), if_neg (by omega), if_neg (by omega)]
  exact ⟨rfl, rfl⟩
def FbRel (n : Nat) (w : World) (g : Nat) (v7 v8 v9 : Value) (wr : World) : Prop :=
  ∃ (i : Nat) (ms : List (List UInt8)) (v : Value), i + g = n ∧ i ≤ 20 ∧ v9 = .int .i64 (i : Nat) ∧ v7 = .string (bs (ms.map frm).flatten) ∧ v = v8 ∧ OwnS wr w.heap.size 9 v ms ∧ (∀ m ∈ ms, 1 ≤ m.length ∧ m.length ≤ 200) ∧ ms.length ≤ i ∧ Below w.heap.size w wr
set_option maxRecDepth 100000 in
set_option maxHeartbeats 2000000 in
theorem frameBack_walk (I : World → Prop) (FR : World → Nat → List Nat → Fs → Prop) (F : FOkF I FR) (ls : List (List UInt8)) (ao : Option Addr) (cap : Nat) (hn : ls.length ≤ 140737488351232) (hls : ∀ x ∈ ls, x.length ≤ 140737488351232) (more : List UInt8) (hm : more.length ≤ 140737488351232) (bad : UInt8) (w : World) (hw : I w) (hr : RdS w ao ls) :
    Calls Tryd.prog 4 #[.slice ao ls.length cap, .string (bs more), .int .u8 (bad.toNat : Nat)] w fun e w' => e = .returned (.bool true) ∧ Below w.heap.size w w' := by
  have HF := Lib.hid F
  have HI := Lib.hid (fun wx (b : Below w.heap.size w wx) => F.keepI w wx hw b)
  have HR := Lib.hid (fun wx (b : Below w.heap.size w wx) => hr.below b)
  have HLS := Lib.hid hls
  have HW := Lib.hid (works12_walk I FR F.toFOk w hw)
  have HM := Lib.hid hm
  clear F hw hr hls hm
  go_enter Tryd.func4, Tryd.ntmps4
  go_wp2_with fail
  refine HW.out.mono ?_
  rintro e w1 ⟨rfl, b1⟩
  go_wp2_with fail
  go_loopg [7, 8, 9] ls.length (fun g v7 v8 v9 wr => FbRel ls.length w g v7 v8 v9 wr)
  case atStart => exact ⟨0, [], _, by omega, by omega, rfl, rfl, rfl, OwnS.nil _ _ _, fun m hm => (by cases hm), by simp, b1⟩
  case round =>
    obtain ⟨i, ms, v, hg, hi, rfl, rfl, rfl, ho, hms, hml, hb⟩ := hrel
    have HO := Lib.hid ho
    have HMS := Lib.hid hms
    have HML := Lib.hid hml
    have HB := Lib.hid hb
    have hsl := frs_len ms hms
    clear ho hms hb b1
    by_cases hex : i < ls.length ∧ i < 20
    · obtain ⟨hil, hi1⟩ := hex
      obtain ⟨g, rfl⟩ : ∃ g, gk = g + 1 := ⟨gk - 1, by omega⟩
      have e1 : ((i : Nat) : Int) < ((ls.length : Nat) : Int) := by omega
      have e2 : ((i : Nat) : Int) < 20 := by omega
      obtain ⟨x, hx⟩ : ∃ x, ls.getD i [] = x := ⟨_, rfl⟩
      have hxl : x.length ≤ 140737488351232 := HLS.out x (by rw [← hx, List.getD_eq_getElem?_getD, List.getElem?_eq_getElem hil]; exact List.getElem_mem hil)
      obtain ⟨c, off, rfl, hc, hcell⟩ := (HR.out wr HB.out).at hil hx
      have HC := Lib.hid (fun wx => cut_walk x 200 hxl (by omega) wx)
      have hmx : (x.take 200).length ≤ 200 := by rw [List.length_take]; omega
      have HFR := Lib.hid (HF.out.frame (x.take 200) wr (by omega) (HI.out _ HB.out))
      clear hx hxl
      by_cases h0 : (x.take 200) = []
      · rw [h0] at HC HFR
        have e3 : frS [] = [] ∧ frE [] = 1 := ⟨rfl, rfl⟩
        rw [e3.1, e3.2] at HFR
        clear h0 hmx e3
        go_wp2_with fail
        refine (HC.out _).mono ?_
        rintro e w2 ⟨rfl, rfl⟩
        go_wp2_with fail
        refine HFR.out.mono ?_
        rintro e w3 ⟨rfl, d3⟩
        have HO3 := Lib.hid (HO.out.below d3)
        have HB3 := Lib.hid (HB.out.trans (d3.mono HB.out.size))
        clear d3 hcell
        go_wp2
        go_roundg g
        case measure => omega
        case rel => exact ⟨i + 1, ms, v, by omega, by omega, by simp, rfl, rfl, HO3.out, HMS.out, by omega, HB3.out⟩
      · have hpos : 1 ≤ (x.take 200).length := List.length_pos_iff.2 h0
        have hne : (x.take 200).isEmpty = false := List.isEmpty_eq_false_iff.2 h0
        obtain ⟨e3, e4⟩ := frS_one hpos (by omega)
        rw [e3, e4] at HFR
        have hfl := frm_len (x.take 200) hmx
        have HSN := Lib.hid (frs_snoc ms (x.take 200))
        generalize x.take 200 = m at *
        generalize (ms.map frm).flatten = SS at *
        generalize frm m = FM at *
        clear h0 e3 e4
        go_wp2_with fail
        refine (HC.out _).mono ?_
        rintro e w2 ⟨rfl, rfl⟩
        go_wp2_with fail
        refine HFR.out.mono ?_
        rintro e w3 ⟨rfl, d3⟩
        have o3 := HO.out.below d3
        have b3 := HB.out.trans (d3.mono HB.out.size)
        have a4 := (Below.refl w3.heap.size w3).alloc (Nat.le_refl _) (.cells #[.string (bs m)] 9)
        have o4 := o3.below a4
        have b4 := b3.trans (a4.mono b3.size)
        have r4 := rds_one w3 m
        have s4 := b4.size
        have hll : ms.length + [m].length ≤ 10000000 := by simp; omega
        clear d3 a4 o3 b3 hcell
        go_wp2_with (at_builtin; refine spreadSL rfl rfl v rfl o4 s4 rfl r4 (.inr ⟨_, rfl⟩) hll ?_)
        intro v5 w5 o5 g5
        have b5 := b4.grown g5 s4 (fun k hk => (World.ownsRow.lt o4 k hk).1)
        have HO5 := Lib.hid o5
        have HB5 := Lib.hid b5
        have HMX := Lib.hid (show ∀ y ∈ ms ++ [m], 1 ≤ y.length ∧ y.length ≤ 200 by
          intro y hy
          rcases List.mem_append.1 hy with h | h
          · exact HMS.out y h
          · simp at h; subst h; exact ⟨hpos, hmx⟩)
        clear o4 b4 r4 s4 g5 o5 b5 hll
        go_wp2
        go_roundg g
        case measure => omega
        case rel => exact ⟨i + 1, ms ++ [m], v5, by omega, by omega, by simp, by rw [HSN.out], rfl, HO5.out, HMX.out, by simp; omega, HB5.out⟩
    · by_cases hil : i < ls.length
      · have e1 : ((i : Nat) : Int) < ((ls.length : Nat) : Int) := by omega
        have e2 : ¬ ((i : Nat) : Int) < 20 := by omega
        have hfe1 := feed_frames 200 [] ms HMS.out
        rw [List.append_nil, feed_nil, List.append_nil] at hfe1
        have hX1 : 1 ≤ (120 :: more.take 100).length := by simp
        have hX2 : (120 :: more.take 100).length ≤ 200 := by simp; omega
        obtain ⟨x1, x2⟩ := frS_one hX1 (by omega)
        have hTL := frm_len _ hX2
        have hT1 : 1 ≤ (frm (120 :: more.take 100)).length := by unfold frm; simp only [List.length_append, List.length_cons]; omega
        have hfe2 := feed_frames 200 (frm (120 :: more.take 100)).dropLast ms HMS.out
        have hfc := feed_cut 200 (120 :: more.take 100).dropLast ((120 :: more.take 100).getLast (by simp)) (by rw [List.length_dropLast]; omega)
        rw [List.dropLast_concat_getLast] at hfc
        rw [hfc, List.append_nil] at hfe2
        obtain ⟨cb, hcb1, hcb2⟩ : ∃ cb : UInt8, (cb < 49 ∨ 57 < cb) ∧ cb.toNat = (if 49 ≤ bad.toNat ∧ bad.toNat ≤ 57 then 48 else bad.toNat) := by
          by_cases hbb : 49 ≤ bad.toNat ∧ bad.toNat ≤ 57
          · exact ⟨48, .inl (by decide), by rw [if_pos hbb]; rfl⟩
          · refine ⟨bad, ?_, by rw [if_neg hbb]⟩
            by_cases h9 : bad.toNat < 49
            · exact .inl (UInt8.lt_iff_toNat_lt.2 h9)
            · exact .inr (UInt8.lt_iff_toNat_lt.2 (by show (57 : Nat) < bad.toNat; omega))
        have hfe3 := feed_frames 200 [cb] ms HMS.out
        rw [feed_byte 200 cb hcb1, List.append_nil] at hfe3
        have HFE1 := Lib.hid hfe1
        have HFE2 := Lib.hid hfe2
        have HFE3 := Lib.hid hfe3
        have hml2 : ms.length ≤ 20 := by omega
        obtain ⟨aw, cw, rfl, -, -, rw0, -⟩ := HO.out.form
        have HRW := Lib.hid (fun wx (b : Below wr.heap.size wr wx) => rw0.below b)
        have HFD := Lib.hid (fun (s : List UInt8) (hs : s.length ≤ 100000) wx (b : Below w.heap.size w wx) => fed12_walk I FR HF.out.toFOk 200 (by omega) (by omega) s hs 0 none 0 (fun _ => 0) (by omega) (fun i hi => by omega) wx (HI.out wx b) (fun _ _ => .inl rfl))
        have HCU := Lib.hid (fun wx => cut_walk more 100 HM.out (by omega) wx)
        have HFM := Lib.hid (fun wx (b : Below w.heap.size w wx) => HF.out.frame (120 :: more.take 100) wx (by omega) (HI.out wx b))
        rw [x1, x2] at HFM
        have hd1 := HFD.out (ms.map frm).flatten (by omega) wr HB.out
        unfold FcPost at hd1
        rw [hfe1] at hd1
        have hd2 := fun wx b => HFD.out ((ms.map frm).flatten ++ (frm (120 :: more.take 100)).dropLast) (by rw [List.length_append, List.length_dropLast]; omega) wx b
        unfold FcPost at hd2
        rw [hfe2] at hd2
        have hd3 := fun wx b => HFD.out ((ms.map frm).flatten ++ [cb]) (by rw [List.length_append, List.length_singleton]; omega) wx b
        unfold FcPost at hd3
        rw [hfe3] at hd3
        have HD1 := Lib.hid hd1
        have HD2 := Lib.hid hd2
        have HD3 := Lib.hid hd3
        clear hd1 hd2 hd3 hfe1 hfe2 hfe3 hfc x1 x2 hX1 rw0 hcb1
        have hlit : bs (120 :: more.take 100) = ({ data := #[120] } : ByteArray) ++ bs (more.take 100) := by rw [show (120 :: more.take 100 : List UInt8) = [120] ++ more.take 100 from rfl, ← bs_append]; rfl
        rw [hlit] at HFM
        have HTD := Lib.hid (show (frm (120 :: more.take 100)).dropLast = (frm (120 :: more.take 100)).take ((frm (120 :: more.take 100)).length - 1) from List.dropLast_eq_take)
        generalize frm (120 :: more.take 100) = T at *
        generalize (ms.map frm).flatten = SS at *
        have hmt : (more.take 100).length ≤ 100 := by rw [List.length_take]; omega
        generalize more.take 100 = MT at *
        clear hlit hX2 hex
        go_wp2_with fail
        refine HD1.out.mono ?_
        rintro e w2 ⟨a2, c2, rfl, r2, d2⟩
        have b2 := HB.out.trans (d2.mono HB.out.size)
        go_wp2_with fail
        refine (sametexts_walk ms (by omega) a2 aw c2 cw w2 r2 (HRW.out _ d2)).mono ?_
        rintro e w3 ⟨rfl, m3, rfl⟩
        have d3 := Below_drewT d2 m3
        have b3 := Below_drewT b2 m3
        clear r2 d2 b2
        generalize w2.drewN m3 = w3 at *
        go_wp2_with fail
        refine (HCU.out _).mono ?_
        rintro e w4 ⟨rfl, rfl⟩
        go_wp2_with fail
        refine (HFM.out _ b3).mono ?_
        rintro e w5 ⟨rfl, k5⟩
        have d5 := d3.trans (k5.mono d3.size)
        have b5 := b3.trans (k5.mono b3.size)
        have hd2 := HD2.out w5 b5
        rw [HTD.out] at hd2
        simp only [Option.isNone_some, Option.getD_some] at hd2
        rw [show (T.take (T.length - 1)).length = T.length - 1 by rw [List.length_take]; omega, show ((T.length - 1 : Nat) : Int) = ((T.length : Nat) : Int) - 1 by omega] at hd2
        have HD2' := Lib.hid hd2
        clear d3 b3 k5 hd2
        go_wp2_with fail
        refine HD2'.out.mono ?_
        rintro e w6 ⟨a6, c6, rfl, r6, k6⟩
        have d6 := d5.trans (k6.mono d5.size)
        have b6 := b5.trans (k6.mono b5.size)
        clear d5 b5 k6
        go_wp2_with fail
        refine (sametexts_walk ms (by omega) a6 aw c6 cw w6 r6 (HRW.out _ d6)).mono ?_
        rintro e w7 ⟨rfl, m7, rfl⟩
        have d7 := Below_drewT d6 m7
        have b7 := Below_drewT b6 m7
        clear r6 d6 b6
        generalize w6.drewN m7 = w7 at *
        by_cases hbb : 49 ≤ bad.toNat ∧ bad.toNat ≤ 57
        · rw [if_pos hbb] at hcb2
          have hc48 : cb = 48 := UInt8.toNat_inj.1 hcb2
          subst hc48
          obtain ⟨q1, q2⟩ := hbb
          have y1 : (49 : Int) ≤ ((bad.toNat : Nat) : Int) := by omega
          have y2 : ((bad.toNat : Nat) : Int) ≤ 57 := by omega
          clear q1 q2 hcb2
          have hcv := run_conv_one (P := Tryd.prog) 46 5 9 Tryd.underlying46 Tryd.underlying5 Tryd.underlying9
          go_wp2_with fail
          have b8' := alloc_s w7 (.cells #[.int .u8 48] 5)
          have hb8 := HD3.out _ (b7.trans (b8'.mono b7.size))
          rw [show [(48 : UInt8)] = [b8 48] from rfl] at hb8
          have d8 := d7.trans (b8'.mono d7.size)
          have B8 := b7.trans (b8'.mono b7.size)
          clear b8' d7 b7
          refine hb8.mono ?_
          rintro e w9 ⟨a9, c9, rfl, r9, k9⟩
          have d9 := d8.trans (k9.mono d8.size)
          have b9 := B8.trans (k9.mono B8.size)
          clear d8 B8 k9 hb8
          go_wp2_with fail
          refine (sametexts_walk ms (by omega) a9 aw c9 cw w9 r9 (HRW.out _ d9)).mono ?_
          rintro e w10 ⟨rfl, m10, rfl⟩
          go_wp2
          go_ret
          exact ⟨rfl, Below_drewT b9 m10⟩
        · rw [if_neg hbb] at hcb2
          have hcb : cb = bad := UInt8.toNat_inj.1 hcb2
          subst hcb
          have hcv := run_conv_one (P := Tryd.prog) 46 5 9 Tryd.underlying46 Tryd.underlying5 Tryd.underlying9
          by_cases h9 : 49 ≤ cb.toNat
          · have y1 : (49 : Int) ≤ ((cb.toNat : Nat) : Int) := by omega
            have y2 : ¬ ((cb.toNat : Nat) : Int) ≤ 57 := by omega
            clear hbb h9
            go_wp2_with fail
            have b8' := alloc_s w7 (.cells #[.int .u8 (cb.toNat : Nat)] 5)
            have hb8 := HD3.out _ (b7.trans (b8'.mono b7.size))
            rw [show [cb] = [b8 cb.toNat] by unfold b8; simp] at hb8
            have d8 := d7.trans (b8'.mono d7.size)
            have B8 := b7.trans (b8'.mono b7.size)
            clear b8' d7 b7
            refine hb8.mono ?_
            rintro e w9 ⟨a9, c9, rfl, r9, k9⟩
            have d9 := d8.trans (k9.mono d8.size)
            have b9 := B8.trans (k9.mono B8.size)
            clear d8 B8 k9 hb8
            go_wp2_with fail
            refine (sametexts_walk ms (by omega) a9 aw c9 cw w9 r9 (HRW.out _ d9)).mono ?_
            rintro e w10 ⟨rfl, m10, rfl⟩
            go_wp2
            go_ret
            exact ⟨rfl, Below_drewT b9 m10⟩
          · have y1 : ¬ (49 : Int) ≤ ((cb.toNat : Nat) : Int) := by omega
            clear hbb h9
            go_wp2_with fail
            have b8' := alloc_s w7 (.cells #[.int .u8 (cb.toNat : Nat)] 5)
            have hb8 := HD3.out _ (b7.trans (b8'.mono b7.size))
            rw [show [cb] = [b8 cb.toNat] by unfold b8; simp] at hb8
            have d8 := d7.trans (b8'.mono d7.size)
            have B8 := b7.trans (b8'.mono b7.size)
            clear b8' d7 b7
            refine hb8.mono ?_
            rintro e w9 ⟨a9, c9, rfl, r9, k9⟩
            have d9 := d8.trans (k9.mono d8.size)
            have b9 := B8.trans (k9.mono B8.size)
            clear d8 B8 k9 hb8
            go_wp2_with fail
            refine (sametexts_walk ms (by omega) a9 aw c9 cw w9 r9 (HRW.out _ d9)).mono ?_
            rintro e w10 ⟨rfl, m10, rfl⟩
            go_wp2
            go_ret
            exact ⟨rfl, Below_drewT b9 m10⟩
      · have e1 : ¬ ((i : Nat) : Int) < ((ls.length : Nat) : Int) := by omega
        have hfe1 := feed_frames 200 [] ms HMS.out
        rw [List.append_nil, feed_nil, List.append_nil] at hfe1
        have hX1 : 1 ≤ (120 :: more.take 100).length := by simp
        have hX2 : (120 :: more.take 100).length ≤ 200 := by simp; omega
        obtain ⟨x1, x2⟩ := frS_one hX1 (by omega)
        have hTL := frm_len _ hX2
        have hT1 : 1 ≤ (frm (120 :: more.take 100)).length := by unfold frm; simp only [List.length_append, List.length_cons]; omega
        have hfe2 := feed_frames 200 (frm (120 :: more.take 100)).dropLast ms HMS.out
        have hfc := feed_cut 200 (120 :: more.take 100).dropLast ((120 :: more.take 100).getLast (by simp)) (by rw [List.length_dropLast]; omega)
        rw [List.dropLast_concat_getLast] at hfc
        rw [hfc, List.append_nil] at hfe2
        obtain ⟨cb, hcb1, hcb2⟩ : ∃ cb : UInt8, (cb < 49 ∨ 57 < cb) ∧ cb.toNat = (if 49 ≤ bad.toNat ∧ bad.toNat ≤ 57 then 48 else bad.toNat) := by
          by_cases hbb : 49 ≤ bad.toNat ∧ bad.toNat ≤ 57
          · exact ⟨48, .inl (by decide), by rw [if_pos hbb]; rfl⟩
          · refine ⟨bad, ?_, by rw [if_neg hbb]⟩
            by_cases h9 : bad.toNat < 49
            · exact .inl (UInt8.lt_iff_toNat_lt.2 h9)
            · exact .inr (UInt8.lt_iff_toNat_lt.2 (by show (57 : Nat) < bad.toNat; omega))
        have hfe3 := feed_frames 200 [cb] ms HMS.out
        rw [feed_byte 200 cb hcb1, List.append_nil] at hfe3
        have HFE1 := Lib.hid hfe1
        have HFE2 := Lib.hid hfe2
        have HFE3 := Lib.hid hfe3
        have hml2 : ms.length ≤ 20 := by omega
        obtain ⟨aw, cw, rfl, -, -, rw0, -⟩ := HO.out.form
        have HRW := Lib.hid (fun wx (b : Below wr.heap.size wr wx) => rw0.below b)
        have HFD := Lib.hid (fun (s : List UInt8) (hs : s.length ≤ 100000) wx (b : Below w.heap.size w wx) => fed12_walk I FR HF.out.toFOk 200 (by omega) (by omega) s hs 0 none 0 (fun _ => 0) (by omega) (fun i hi => by omega) wx (HI.out wx b) (fun _ _ => .inl rfl))
        have HCU := Lib.hid (fun wx => cut_walk more 100 HM.out (by omega) wx)
        have HFM := Lib.hid (fun wx (b : Below w.heap.size w wx) => HF.out.frame (120 :: more.take 100) wx (by omega) (HI.out wx b))
        rw [x1, x2] at HFM
        have hd1 := HFD.out (ms.map frm).flatten (by omega) wr HB.out
        unfold FcPost at hd1
        rw [hfe1] at hd1
        have hd2 := fun wx b => HFD.out ((ms.map frm).flatten ++ (frm (120 :: more.take 100)).dropLast) (by rw [List.length_append, List.length_dropLast]; omega) wx b
        unfold FcPost at hd2
        rw [hfe2] at hd2
        have hd3 := fun wx b => HFD.out ((ms.map frm).flatten ++ [cb]) (by rw [List.length_append, List.length_singleton]; omega) wx b
        unfold FcPost at hd3
        rw [hfe3] at hd3
        have HD1 := Lib.hid hd1
        have HD2 := Lib.hid hd2
        have HD3 := Lib.hid hd3
        clear hd1 hd2 hd3 hfe1 hfe2 hfe3 hfc x1 x2 hX1 rw0 hcb1
        have hlit : bs (120 :: more.take 100) = ({ data := #[120] } : ByteArray) ++ bs (more.take 100) := by rw [show (120 :: more.take 100 : List UInt8) = [120] ++ more.take 100 from rfl, ← bs_append]; rfl
        rw [hlit] at HFM
        have HTD := Lib.hid (show (frm (120 :: more.take 100)).dropLast = (frm (120 :: more.take 100)).take ((frm (120 :: more.take 100)).length - 1) from List.dropLast_eq_take)
        generalize frm (120 :: more.take 100) = T at *
        generalize (ms.map frm).flatten = SS at *
        have hmt : (more.take 100).length ≤ 100 := by rw [List.length_take]; omega
        generalize more.take 100 = MT at *
        clear hlit hX2 hex
        go_wp2_with fail
        refine HD1.out.mono ?_
        rintro e w2 ⟨a2, c2, rfl, r2, d2⟩
        have b2 := HB.out.trans (d2.mono HB.out.size)
        go_wp2_with fail
        refine (sametexts_walk ms (by omega) a2 aw c2 cw w2 r2 (HRW.out _ d2)).mono ?_
        rintro e w3 ⟨rfl, m3, rfl⟩
        have d3 := Below_drewT d2 m3
        have b3 := Below_drewT b2 m3
        clear r2 d2 b2
        generalize w2.drewN m3 = w3 at *
        go_wp2_with fail
        refine (HCU.out _).mono ?_
        rintro e w4 ⟨rfl, rfl⟩
        go_wp2_with fail
        refine (HFM.out _ b3).mono ?_
        rintro e w5 ⟨rfl, k5⟩
        have d5 := d3.trans (k5.mono d3.size)
        have b5 := b3.trans (k5.mono b3.size)
        have hd2 := HD2.out w5 b5
        rw [HTD.out] at hd2
        simp only [Option.isNone_some, Option.getD_some] at hd2
        rw [show (T.take (T.length - 1)).length = T.length - 1 by rw [List.length_take]; omega, show ((T.length - 1 : Nat) : Int) = ((T.length : Nat) : Int) - 1 by omega] at hd2
        have HD2' := Lib.hid hd2
        clear d3 b3 k5 hd2
        go_wp2_with fail
        refine HD2'.out.mono ?_
        rintro e w6 ⟨a6, c6, rfl, r6, k6⟩
        have d6 := d5.trans (k6.mono d5.size)
        have b6 := b5.trans (k6.mono b5.size)
        clear d5 b5 k6
        go_wp2_with fail
        refine (sametexts_walk ms (by omega) a6 aw c6 cw w6 r6 (HRW.out _ d6)).mono ?_
        rintro e w7 ⟨rfl, m7, rfl⟩
        have d7 := Below_drewT d6 m7
        have b7 := Below_drewT b6 m7
        clear r6 d6 b6
        generalize w6.drewN m7 = w7 at *
        by_cases hbb : 49 ≤ bad.toNat ∧ bad.toNat ≤ 57
        · rw [if_pos hbb] at hcb2
          have hc48 : cb = 48 := UInt8.toNat_inj.1 hcb2
          subst hc48
          obtain ⟨q1, q2⟩ := hbb
          have y1 : (49 : Int) ≤ ((bad.toNat : Nat) : Int) := by omega
          have y2 : ((bad.toNat : Nat) : Int) ≤ 57 := by omega
          clear q1 q2 hcb2
          have hcv := run_conv_one (P := Tryd.prog) 46 5 9 Tryd.underlying46 Tryd.underlying5 Tryd.underlying9
          go_wp2_with fail
          have b8' := alloc_s w7 (.cells #[.int .u8 48] 5)
          have hb8 := HD3.out _ (b7.trans (b8'.mono b7.size))
          rw [show [(48 : UInt8)] = [b8 48] from rfl] at hb8
          have d8 := d7.trans (b8'.mono d7.size)
          have B8 := b7.trans (b8'.mono b7.size)
          clear b8' d7 b7
          refine hb8.mono ?_
          rintro e w9 ⟨a9, c9, rfl, r9, k9⟩
          have d9 := d8.trans (k9.mono d8.size)
          have b9 := B8.trans (k9.mono B8.size)
          clear d8 B8 k9 hb8
          go_wp2_with fail
          refine (sametexts_walk ms (by omega) a9 aw c9 cw w9 r9 (HRW.out _ d9)).mono ?_
          rintro e w10 ⟨rfl, m10, rfl⟩
          go_wp2
          go_ret
          exact ⟨rfl, Below_drewT b9 m10⟩
        · rw [if_neg hbb] at hcb2
          have hcb : cb = bad := UInt8.toNat_inj.1 hcb2
          subst hcb
          have hcv := run_conv_one (P := Tryd.prog) 46 5 9 Tryd.underlying46 Tryd.underlying5 Tryd.underlying9
          by_cases h9 : 49 ≤ cb.toNat
          · have y1 : (49 : Int) ≤ ((cb.toNat : Nat) : Int) := by omega
            have y2 : ¬ ((cb.toNat : Nat) : Int) ≤ 57 := by omega
            clear hbb h9
            go_wp2_with fail
            have b8' := alloc_s w7 (.cells #[.int .u8 (cb.toNat : Nat)] 5)
            have hb8 := HD3.out _ (b7.trans (b8'.mono b7.size))
            rw [show [cb] = [b8 cb.toNat] by unfold b8; simp] at hb8
            have d8 := d7.trans (b8'.mono d7.size)
            have B8 := b7.trans (b8'.mono b7.size)
            clear b8' d7 b7
            refine hb8.mono ?_
            rintro e w9 ⟨a9, c9, rfl, r9, k9⟩
            have d9 := d8.trans (k9.mono d8.size)
            have b9 := B8.trans (k9.mono B8.size)
            clear d8 B8 k9 hb8
            go_wp2_with fail
            refine (sametexts_walk ms (by omega) a9 aw c9 cw w9 r9 (HRW.out _ d9)).mono ?_
            rintro e w10 ⟨rfl, m10, rfl⟩
            go_wp2
            go_ret
            exact ⟨rfl, Below_drewT b9 m10⟩
          · have y1 : ¬ (49 : Int) ≤ ((cb.toNat : Nat) : Int) := by omega
            clear hbb h9
            go_wp2_with fail
            have b8' := alloc_s w7 (.cells #[.int .u8 (cb.toNat : Nat)] 5)
            have hb8 := HD3.out _ (b7.trans (b8'.mono b7.size))
            rw [show [cb] = [b8 cb.toNat] by unfold b8; simp] at hb8
            have d8 := d7.trans (b8'.mono d7.size)
            have B8 := b7.trans (b8'.mono b7.size)
            clear b8' d7 b7
            refine hb8.mono ?_
            rintro e w9 ⟨a9, c9, rfl, r9, k9⟩
            have d9 := d8.trans (k9.mono d8.size)
            have b9 := B8.trans (k9.mono B8.size)
            clear d8 B8 k9 hb8
            go_wp2_with fail
            refine (sametexts_walk ms (by omega) a9 aw c9 cw w9 r9 (HRW.out _ d9)).mono ?_
            rintro e w10 ⟨rfl, m10, rfl⟩
            go_wp2
            go_ret
            exact ⟨rfl, Below_drewT b9 m10⟩
end Go.Proofs.YtndinelljmjfaaaDoor
