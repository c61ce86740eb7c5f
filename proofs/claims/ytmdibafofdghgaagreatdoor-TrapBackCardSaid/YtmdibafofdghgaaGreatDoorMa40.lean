/- Texts on the program and on the document, joined: TrpK. -/
import Derived.Test.YtmdibafofdghgaaGreatDoorMa39
/- TrapBack, walked on calls that keep their word. -/
namespace Go.Proofs.YtmdibafofdghgaaGreatDoor
open Go.ChangeShapes Go.WideShapes Go.ChangeAt Go.RowKit K P1 B5
open D8 (Bd Un lst deU)
open T9 (Tr bU bI msg msgB ofU m3 deM)
set_option linter.unusedVariables false

/-- How a trap's message ends. -/
theorem te_ways (t : Tr) : (teE t = 0 ∧ t.ok = true ∧ teS t = msg t.c t.un ∧ (msg t.c t.un).length ≤ 65535) ∨ (teE t = 2 ∧ teS t = []) ∨ (teE t = 90 ∧ teS t = [] ∧ tcE t = 90) := by
  cases hk : t.ok
  · exact .inr (.inr ⟨by unfold teE; rw [hk]; rfl, by unfold teS; rw [hk]; rfl, by unfold tcE; rw [hk]; rfl⟩)
  · have e3 : teE t = mgE t.c t.un := by unfold teE; rw [hk]; rfl
    have e4 : teS t = mgS t.c t.un := by unfold teS; rw [hk]; rfl
    rcases mg_cases t.c t.un with ⟨h2, a2, b2⟩ | ⟨h2, a2, b2⟩
    · exact .inl ⟨e3.trans a2, rfl, e4.trans b2, h2⟩
    · exact .inr (.inl ⟨e3.trans a2, e4.trans b2⟩)
/-- What is left of a message at a place ahead of its end, and what has more behind it, is none. -/
theorem back_no {t : Tr} (h : t.ok = true) (known : List (List UInt8)) : (∀ k, k < (msg t.c t.un).length → dtT ((msg t.c t.un).take k) known = not9 ∧ dtE ((msg t.c t.un).take k) known = 90) ∧ (∀ r, r ≠ [] → dtT (msg t.c t.un ++ r) known = not9 ∧ dtE (msg t.c t.un ++ r) known = 90) := by
  obtain ⟨⟨_, h2⟩, h3⟩ := (T9.Tr.ok_iff t).1 h
  exact ⟨fun k hk => dt_no (fun _ => T9.deM_no (T9.m3_cut h2 h3 hk)) known, fun r hr => dt_no (fun _ => T9.deM_no (T9.m3_more h2 h3 hr)) known⟩
set_option maxRecDepth 100000 in
set_option maxHeartbeats 4000000 in
theorem trapBack_good (I : World → Prop) (K : TrpOk I) (t : Tr) (ao : Option Addr) (ca : Nat) (ls : List (List UInt8)) (bo : Option Addr) (cb : Nat) (pl : Int) (hp0 : -9223372036854775808 ≤ pl) (hp1 : pl ≤ 9223372036854775807) (hc : t.c.length ≤ 140737488351232) (ho : t.o.length ≤ 140737488351232) (hl48 : t.l.length * 48 ≤ 140737488351232)
    (hf : t.fits) (hx : Lim t.l) (hsh : ((ao = none ∧ t.l.length = 0 ∧ ca = 0) ∨ ∃ a, ao = some a)) (hshb : ((bo = none ∧ ls.length = 0 ∧ cb = 0) ∨ ∃ a, bo = some a)) (w : World) (hw : I w) (hr : RdB w ao t.l) (hrk : RdS w bo ls) (hs1 : sm9 t = true) (hn : ls.length ≤ 50) (ha : teE t = 0) (hk : t.ok = true) (hb : teS t = msg t.c t.un) (hm : (msg t.c t.un).length ≤ 65535) :
    Calls Tryz.prog 5 #[.agg #[.string (bs t.c), .bool t.f, .int .i64 t.r, .int .i64 t.n, .string (bs t.o), .slice ao t.l.length ca], .slice bo ls.length cb, .int .i64 pl] w fun e w' => e = .returned (.bool true) ∧ Below w.heap.size w w' := by
  have hl : t.l.length ≤ 140737488351232 := by omega
  have b0 := alloc_in w (.cells #[.string (bs t.c), .bool t.f, .int .i64 t.r, .int .i64 t.n, .string (bs t.o), .slice ao t.l.length ca] 27)
  have ht0 := Tq.new w t ao ca
  have hr0 := hr.below b0
  obtain ⟨w0, hw0⟩ : ∃ w0, w.alloc (.cells #[.string (bs t.c), .bool t.f, .int .i64 t.r, .int .i64 t.n, .string (bs t.o), .slice ao t.l.length ca] 27) = w0 := ⟨_, rfl⟩
  rw [hw0] at b0 ht0 hr0
  have HW0 := Lib.hid hw0
  have HW := Lib.hid (fun w1 (h : I w1) => K.works w1 h)
  have HK := Lib.hid (fun w1 (b : Below w.heap.size w w1) => K.keep w w1 hw b)
  have HRD := Lib.hid (fun w1 (b : Below w.heap.size w w1) => hr.below b)
  have HRK := Lib.hid (fun w1 (b : Below w.heap.size w w1) => hrk.below b)
  have hS1 := fun w1 (h : RdB w1 ao t.l) => small9_walk t ao ca hl ho hx w1 h
  have hq := sm9_lim hs1 hc hf hx
  rw [hs1] at hS1
  have HS1 := Lib.hid hS1
  clear hS1 hw0 hr hrk
  have hn1 : ¬ (50 : Int) < ((ls.length : Nat) : Int) := by omega
  have hEp := fun w1 (h : I w1) (r : RdB w1 ao t.l) => K.encode t ao ca w1 hq hsh h r
  rw [ha, hb] at hEp
  have HEp := Lib.hid hEp
  clear hEp
  have hcut := fun known => (back_no hk known).1
  have hmore := fun known => (back_no hk known).2
  have hcl := (T9.Tr.ok_iff t).1 hk
  have hbk := fun known => T9.deM_back hk hf |> fun h => dt_yes hm h known
  have hpos : 0 < (msg t.c t.un).length := by unfold msg; rw [put_len]; omega
  have hS : ∀ xo xc w1, I w1 → RdB w1 ao t.l → RdB w1 xo t.l → Calls Tryz.prog 21 #[.agg #[.string (bs t.c), .bool t.f, .int .i64 t.r, .int .i64 t.n, .string (bs t.o), .slice ao t.l.length ca], .agg #[.string (bs t.c), .bool t.f, .int .i64 t.r, .int .i64 t.n, .string (bs t.o), .slice xo t.l.length xc]] w1 fun e w' => e = .returned (.bool true) ∧ Below w1.heap.size w1 w' := fun xo xc w1 h r r2 => by
    have := K.same t t ao xo ca xc w1 (by omega) (by omega) h r r2
    rw [sameT_self] at this; exact this
  have hkn : knows (ls ++ [t.c]) t.c = true := by unfold knows; simp
  have hD1 : ∀ ko kc w1, I w1 → RdS w1 ko (ls ++ [t.c]) → Calls Tryz.prog 10 #[.string (bs (msg t.c t.un)), .slice ko (ls.length + 1) kc] w1 fun e w' => ∃ xo xc, e = .returned (.tuple #[.agg #[.string (bs t.c), .bool t.f, .int .i64 t.r, .int .i64 t.n, .string (bs t.o), .slice xo t.l.length xc], .int .i64 0]) ∧ RdB w' xo t.l ∧ Below w1.heap.size w1 w' := fun ko kc w1 h r => by
    have := K.decode (msg t.c t.un) (ls ++ [t.c]) ko kc w1 (by omega) (by simp; omega) h r
    unfold DtPost at this
    rw [(hbk _).1, (hbk _).2, hkn, if_pos rfl, if_pos rfl] at this
    rw [show (ls ++ [t.c]).length = ls.length + 1 by simp] at this
    exact this
  have hD3 : ∀ k, k < (msg t.c t.un).length → ∀ ko kc w1, I w1 → RdS w1 ko ls → Calls Tryz.prog 10 #[.string (bs ((msg t.c t.un).take k)), .slice ko ls.length kc] w1 fun e w' => ∃ (xo : Option Addr) (xc : Nat), e = .returned (.tuple #[.agg #[.string (bs not9.c), .bool not9.f, .int .i64 not9.r, .int .i64 not9.n, .string (bs not9.o), .slice xo not9.l.length xc], .int .i64 90]) ∧ Below w1.heap.size w1 w' := fun k hk2 ko kc w1 h r => by
    have := K.decode ((msg t.c t.un).take k) ls ko kc w1 (by rw [List.length_take]; omega) (by omega) h r
    refine this.mono ?_
    rintro e w' ⟨xo, xc, h1, -, h2⟩
    rw [(hcut ls k hk2).1, (hcut ls k hk2).2] at h1
    exact ⟨xo, xc, h1, h2⟩
  have hD4 : ∀ ko kc w1, I w1 → RdS w1 ko ls → Calls Tryz.prog 10 #[.string (bs (msg t.c t.un ++ [120])), .slice ko ls.length kc] w1 fun e w' => ∃ (xo : Option Addr) (xc : Nat), e = .returned (.tuple #[.agg #[.string (bs not9.c), .bool not9.f, .int .i64 not9.r, .int .i64 not9.n, .string (bs not9.o), .slice xo not9.l.length xc], .int .i64 90]) ∧ Below w1.heap.size w1 w' := fun ko kc w1 h r => by
    have := K.decode (msg t.c t.un ++ [120]) ls ko kc w1 (by rw [List.length_append]; simp; omega) (by omega) h r
    refine this.mono ?_
    rintro e w' ⟨xo, xc, h1, -, h2⟩
    rw [(hmore ls [120] (by simp)).1, (hmore ls [120] (by simp)).2] at h1
    exact ⟨xo, xc, h1, h2⟩
  have hD2 : ∀ ko kc w1, I w1 → RdS w1 ko ls → Calls Tryz.prog 10 #[.string (bs (msg t.c t.un)), .slice ko ls.length kc] w1 fun e w' => ∃ xo xc, e = .returned (.tuple #[.agg #[.string (bs (if knows ls t.c then t else not9).c), .bool (if knows ls t.c then t else not9).f, .int .i64 (if knows ls t.c then t else not9).r, .int .i64 (if knows ls t.c then t else not9).n, .string (bs (if knows ls t.c then t else not9).o), .slice xo (if knows ls t.c then t else not9).l.length xc], .int .i64 ((if knows ls t.c then 0 else 91 : Nat) : Nat)]) ∧ Below w1.heap.size w1 w' := fun ko kc w1 h r => by
    have := K.decode (msg t.c t.un) ls ko kc w1 (by omega) (by omega) h r
    unfold DtPost at this
    rw [(hbk _).1, (hbk _).2] at this
    exact this.mono fun e w' ⟨xo, xc, h1, _, h2⟩ => ⟨xo, xc, h1, h2⟩
  have hBl := below_walk pl ((msg t.c t.un).length : Int) hp0 hp1 (by omega) (by omega)
  have hbb := belowN_bounds pl ((msg t.c t.un).length : Int) (by omega)
  obtain ⟨k, hk1⟩ : ∃ k : Nat, belowN pl ((msg t.c t.un).length : Int) = (k : Int) := ⟨_, (Int.toNat_of_nonneg hbb.1).symm⟩
  rw [hk1] at hBl hbb
  have hD3 := hD3 k (by omega)
  have hkl : k < (msg t.c t.un).length := by omega
  clear hcut hmore hcl hbk hkn K hk1 hbb
  obtain ⟨i0, hi, hz0, hz1, hz2⟩ := info_of text_info
  have HD1 := Lib.hid hD1
  have HD2 := Lib.hid hD2
  have HD3 := Lib.hid hD3
  have HD4 := Lib.hid hD4
  have HBl := Lib.hid hBl
  have HS := Lib.hid hS
  have HSB := Lib.hid hshb
  have HLS := Lib.hid hn
  have HKL := Lib.hid hkl
  have HSM := Lib.hid hm
  clear hD1 hD2 hD3 hD4 hBl hS hshb hsh hn hkl hm hq ha hb hk hpos
  generalize msg t.c t.un = MS at *
  go_enter Tryz.func5, Tryz.ntmps5
  go_wp2_with fail
  rw [HW0.out]
  refine (HW.out _ (HK.out _ b0)).mono ?_
  rintro e w1 ⟨rfl, d1⟩
  have b1 := b0.trans (d1.mono b0.size)
  have ht1 := ht0.below d1
  have hr1 := hr0.below d1
  obtain ⟨y0, y1, y2, y3, y4, y5⟩ := ht1.cells
  clear d1 b0 ht0 hr0
  go_wp2_with fail
  refine (HS1.out _ hr1).mono ?_
  rintro e w2 ⟨rfl, d2⟩
  have b2 := b1.trans (d2.mono b1.size)
  have ht2 := ht1.below d2
  have hr2 := hr1.below d2
  clear y0 y1 y2 y3 y4 y5 d2 b1 ht1 hr1
  obtain ⟨y0, y1, y2, y3, y4, y5⟩ := ht2.cells
  go_wp2_with fail
  refine (HEp.out _ (HK.out _ b2) hr2).mono ?_
  rintro e w3 ⟨rfl, d3⟩
  have b3 := b2.trans (d3.mono b2.size)
  have ht3 := ht2.below d3
  have hr3 := hr2.below d3
  clear y0 y1 y2 y3 y4 y5 d3 b2 ht2 hr2
  obtain ⟨y0, y1, y2, y3, y4, y5⟩ := ht3.cells
  clear y0 y1 y2 y3 y4 y5
  have HJ := Lib.hid (And.intro hp0 (And.intro hp1 (And.intro hc (And.intro hr3 b3))))
  clear hp0 hp1 hc ho hl48 hl hf hx hi hz0 hz1 hz2 HEp HS1 HW HW0 hr3 hn1
  go_wp2_with fail
  go_cut [9, 10] (fun v9 v10 wx => ∃ bu xo xc, v9 = .pointer (some ⟨bu, 0, none⟩) ∧ v10 = .int .i64 0 ∧ Fin w wx bu t xo xc ao ca)
  case first =>
    refine back_region (w := w) (t := t) (ao := ao) (ca := ca) (ls := ls) (bo := bo) (cb := cb) (MS := MS) ⟨rfl, by kernel_rfl,
        ⟨_, rfl, rfl, rfl, rfl⟩,
        ⟨_, rfl, rfl, rfl, rfl⟩,
        ⟨_, rfl, rfl, rfl, rfl⟩,
        ⟨_, rfl, rfl, rfl, rfl, by kernel_rfl, by kernel_rfl⟩,
        ⟨_, rfl, rfl, rfl, rfl⟩,
        ⟨_, rfl, rfl, rfl, rfl, by kernel_rfl⟩,
        ⟨_, rfl, rfl, rfl, rfl, by kernel_rfl⟩,
        ⟨_, rfl, rfl, rfl, rfl, by kernel_rfl, by kernel_rfl⟩,
        ⟨_, rfl, rfl, rfl, rfl, by kernel_rfl, by kernel_rfl⟩,
        ⟨_, rfl, rfl, rfl, rfl, by kernel_rfl⟩,
        ⟨_, rfl, rfl, rfl, rfl, by kernel_rfl⟩,
        ⟨_, rfl, rfl, rfl, rfl, by kernel_rfl⟩,
        ⟨_, rfl, rfl, rfl, rfl⟩,
        ⟨_, rfl, rfl, rfl, rfl, by kernel_rfl, by kernel_rfl⟩,
        ⟨_, rfl, rfl, rfl, rfl, by kernel_rfl, by kernel_rfl⟩⟩ (fun ko kc w1 b r => HD1.out ko kc w1 (HK.out _ b) r) (by simp) rfl rfl rfl b3 ht3 HRK.out HSB.out (by have := HLS.out; omega) ?_
    intro f W bu xo xc e9 e10 hF
    have HF := Lib.hid hF
    clear hF
    simp only [puts, KS, List.foldl, Act.put, List.setIfInBounds_toArray, List.set_cons_zero, List.set_cons_succ]
    rw [e9, e10]
    go_wp2_with fail
    go_meet
    exact ⟨_, _, _, rfl, rfl, HF.out⟩
  case rest =>
    obtain ⟨bu, xo, xc, rfl, rfl, F⟩ := hcut
    obtain ⟨w4, rfl⟩ : ∃ x : World, x = wc := ⟨_, rfl⟩
    obtain ⟨hu4, ht4, hr4, b4⟩ := F
    have hra := HRD.out _ b4
    obtain ⟨y0, y1, y2, y3, y4, y5⟩ := ht4.cells
    obtain ⟨z0, z1, z2, z3, z4, z5⟩ := hu4.cells
    go_wp2_with fail
    refine (HS.out _ _ _ (HK.out _ b4) hra hr4).mono ?_
    rintro e w5 ⟨rfl, d5⟩
    have b5 := b4.trans (d5.mono b4.size)
    have ht5 := ht4.below d5
    clear y0 y1 y2 y3 y4 y5 z0 z1 z2 z3 z4 z5 hra hr4 hu4 d5 ht4 b4 HS HD1
    obtain ⟨y0, y1, y2, y3, y4, y5⟩ := ht5.cells
    go_wp2_with fail
    clear y0 y1 y2 y3 y4 y5
    go_loopg [11, 13, 71] ls.length (fun g v11 v13 v71 wr => KbRel t ls ao ca w g v11 v71 wr)
    case atStart => exact ⟨0, false, by omega, rfl, rfl, rfl, ht5, b5⟩
    case round =>
      obtain ⟨i, kk, hi, hkk, rfl, rfl, ht6, b6⟩ := hrel
      obtain ⟨y0, y1, y2, y3, y4, y5⟩ := ht6.cells
      cases gk with
      | succ g =>
        have hlt : i < ls.length := by omega
        have HTK := Lib.hid (knows_take (c := t.c) hlt)
        obtain ⟨o, hoe⟩ : ∃ o, ls.getD i [] = o := ⟨_, rfl⟩
        obtain ⟨b, off, rfl, hbl, c0⟩ := (HRK.out _ b6).at hlt hoe
        rw [hoe, ← hkk] at HTK
        have HKK := Lib.hid hkk
        clear hoe hkk
        cases kk
        · by_cases hoc : o = t.c
          · have e1 : (o == t.c) = true := beq_iff_eq.2 hoc
            have e2 : decide (bs o = bs t.c) = true := decide_eq_true (by rw [hoc])
            rw [e1] at HTK
            clear hoc
            go_wp2
            go_roundg g
            case measure => omega
            case rel => exact ⟨i + 1, true, by omega, HTK.out.symm, rfl, by simp, ht6, b6⟩
          · have e1 : (o == t.c) = false := beq_eq_false_iff_ne.2 hoc
            have e2 : decide (bs o = bs t.c) = false := decide_eq_false (fun k => hoc (bs_inj k))
            rw [e1] at HTK
            clear hoc
            go_wp2
            go_roundg g
            case measure => omega
            case rel => exact ⟨i + 1, false, by omega, HTK.out.symm, rfl, by simp, ht6, b6⟩
        · rw [Bool.true_or] at HTK
          go_wp2
          go_roundg g
          case measure => omega
          case rel => exact ⟨i + 1, true, by omega, HTK.out.symm, rfl, by simp, ht6, b6⟩
      | zero =>
        obtain rfl : i = ls.length := by omega
        rw [List.take_length] at hkk
        have hD2 := HD2.out
        rw [← hkk] at hD2
        have hle : ls.length ≤ ls.length := Nat.le_refl _
        clear hkk hi
        cases kk
        · simp only [reduceIte, Bool.false_eq_true] at hD2
          have HD := Lib.hid hD2
          clear hD2
          go_wp2_with fail
          refine (HD.out _ _ _ (HK.out _ b6) (HRK.out _ b6)).mono ?_
          rintro e w7 ⟨po, pc, rfl, d7⟩
          have a7 := alloc_in w7 (.cells #[.string (bs not9.c), .bool not9.f, .int .i64 not9.r, .int .i64 not9.n, .string (bs not9.o), .slice po not9.l.length pc] 27)
          have hv7 := Tq.new w7 not9 po pc
          have b7 := (b6.trans (d7.mono b6.size)).trans (a7.mono (b6.trans (d7.mono b6.size)).size)
          have hg7 : w7.heap.size < (w7.alloc (.cells #[.string (bs not9.c), .bool not9.f, .int .i64 not9.r, .int .i64 not9.n, .string (bs not9.o), .slice po not9.l.length pc] 27)).heap.size := by simp
          clear y0 y1 y2 y3 y4 y5 ht6 d7 a7 b6 HD
          go_wp2_with fail
          generalize (w7.alloc (.cells #[.string (bs not9.c), .bool not9.f, .int .i64 not9.r, .int .i64 not9.n, .string (bs not9.o), .slice po not9.l.length pc] 27)) = w8 at *
          refine (HBl.out w8).mono ?_
          rintro e w9 ⟨rfl, rfl⟩
          have hv8 := hv7.cells
          have HV := Lib.hid hv7
          have B7 := Lib.hid b7
          have G7 := Lib.hid hg7
          clear hv8 hv7 b7 hg7
          have hkl : k < MS.length := HKL.out
          go_wp2_with fail
          refine (HD3.out _ _ _ (HK.out _ B7.out) (HRK.out _ B7.out)).mono ?_
          rintro e w10 ⟨xo3, xc3, rfl, d10⟩
          have a10 := alloc_in w10 (.cells #[.string (bs not9.c), .bool not9.f, .int .i64 not9.r, .int .i64 not9.n, .string (bs not9.o), .slice xo3 not9.l.length xc3] 27)
          have b10 := (B7.out.trans (d10.mono B7.out.size)).trans (a10.mono (B7.out.trans (d10.mono B7.out.size)).size)
          have hv10 := (HV.out.below d10).below a10
          have hMS : MS.length ≤ 65535 := HSM.out
          have hlit : bs MS ++ ({ data := #[120] } : ByteArray) = bs (MS ++ [120]) := bs_append MS [120]
          clear d10 a10
          go_wp2_with fail
          generalize w10.alloc (.cells #[.string (bs not9.c), .bool not9.f, .int .i64 not9.r, .int .i64 not9.n, .string (bs not9.o), .slice xo3 not9.l.length xc3] 27) = w12 at *
          refine (HD4.out _ _ _ (HK.out _ b10) (HRK.out _ b10)).mono ?_
          rintro e w11 ⟨xo4, xc4, rfl, d11⟩
          have a11 := alloc_in w11 (.cells #[.string (bs not9.c), .bool not9.f, .int .i64 not9.r, .int .i64 not9.n, .string (bs not9.o), .slice xo4 not9.l.length xc4] 27)
          have b11 := (b10.trans (d11.mono b10.size)).trans (a11.mono (b10.trans (d11.mono b10.size)).size)
          have hv11 := (hv10.below d11).below a11
          clear d11 b10 hv10 a11
          have y0 : (w11.alloc (.cells #[.string (bs not9.c), .bool not9.f, .int .i64 not9.r, .int .i64 not9.n, .string (bs not9.o), .slice xo4 not9.l.length xc4] 27)).cell? ⟨w7.heap.size, 0, none⟩ = some (.string (bs [])) := hv11.cells.1
          have y5 : (w11.alloc (.cells #[.string (bs not9.c), .bool not9.f, .int .i64 not9.r, .int .i64 not9.n, .string (bs not9.o), .slice xo4 not9.l.length xc4] 27)).cell? ⟨w7.heap.size, 5, none⟩ = some (.slice po 0 pc) := hv11.cells.2.2.2.2.2
          have HB11 := Lib.hid b11
          clear b11 hv11 hlit
          go_wp2_with fail
          go_ret
          exact ⟨rfl, HB11.out⟩
        · simp only [reduceIte] at hD2
          have HD := Lib.hid hD2
          clear hD2
          go_wp2_with fail
          refine (HD.out _ _ _ (HK.out _ b6) (HRK.out _ b6)).mono ?_
          rintro e w7 ⟨po, pc, rfl, d7⟩
          have a7 := alloc_in w7 (.cells #[.string (bs t.c), .bool t.f, .int .i64 t.r, .int .i64 t.n, .string (bs t.o), .slice po t.l.length pc] 27)
          have hv7 := Tq.new w7 t po pc
          have b7 := (b6.trans (d7.mono b6.size)).trans (a7.mono (b6.trans (d7.mono b6.size)).size)
          have hg7 : w7.heap.size < (w7.alloc (.cells #[.string (bs t.c), .bool t.f, .int .i64 t.r, .int .i64 t.n, .string (bs t.o), .slice po t.l.length pc] 27)).heap.size := by simp
          clear y0 y1 y2 y3 y4 y5 ht6 d7 a7 b6 HD
          go_wp2_with fail
          generalize (w7.alloc (.cells #[.string (bs t.c), .bool t.f, .int .i64 t.r, .int .i64 t.n, .string (bs t.o), .slice po t.l.length pc] 27)) = w8 at *
          refine (HBl.out w8).mono ?_
          rintro e w9 ⟨rfl, rfl⟩
          have hv8 := hv7.cells
          have HV := Lib.hid hv7
          have B7 := Lib.hid b7
          have G7 := Lib.hid hg7
          clear hv8 hv7 b7 hg7
          have hkl : k < MS.length := HKL.out
          go_wp2_with fail
          refine (HD3.out _ _ _ (HK.out _ B7.out) (HRK.out _ B7.out)).mono ?_
          rintro e w10 ⟨xo3, xc3, rfl, d10⟩
          have a10 := alloc_in w10 (.cells #[.string (bs not9.c), .bool not9.f, .int .i64 not9.r, .int .i64 not9.n, .string (bs not9.o), .slice xo3 not9.l.length xc3] 27)
          have b10 := (B7.out.trans (d10.mono B7.out.size)).trans (a10.mono (B7.out.trans (d10.mono B7.out.size)).size)
          have hv10 := (HV.out.below d10).below a10
          have hMS : MS.length ≤ 65535 := HSM.out
          have hlit : bs MS ++ ({ data := #[120] } : ByteArray) = bs (MS ++ [120]) := bs_append MS [120]
          clear d10 a10
          go_wp2_with fail
          generalize w10.alloc (.cells #[.string (bs not9.c), .bool not9.f, .int .i64 not9.r, .int .i64 not9.n, .string (bs not9.o), .slice xo3 not9.l.length xc3] 27) = w12 at *
          refine (HD4.out _ _ _ (HK.out _ b10) (HRK.out _ b10)).mono ?_
          rintro e w11 ⟨xo4, xc4, rfl, d11⟩
          have a11 := alloc_in w11 (.cells #[.string (bs not9.c), .bool not9.f, .int .i64 not9.r, .int .i64 not9.n, .string (bs not9.o), .slice xo4 not9.l.length xc4] 27)
          have b11 := (b10.trans (d11.mono b10.size)).trans (a11.mono (b10.trans (d11.mono b10.size)).size)
          have hv11 := (hv10.below d11).below a11
          clear d11 b10 hv10 a11
          have HB11 := Lib.hid b11
          clear b11 hv11 hlit
          go_wp2_with fail
          go_ret
          exact ⟨rfl, HB11.out⟩
set_option maxRecDepth 100000 in
set_option maxHeartbeats 4000000 in
theorem trapBack_walk (I : World → Prop) (K : TrpOk I) (t : Tr) (ao : Option Addr) (ca : Nat) (ls : List (List UInt8)) (bo : Option Addr) (cb : Nat) (pl : Int) (hp0 : -9223372036854775808 ≤ pl) (hp1 : pl ≤ 9223372036854775807) (hc : t.c.length ≤ 140737488351232) (ho : t.o.length ≤ 140737488351232) (hl48 : t.l.length * 48 ≤ 140737488351232)
    (hf : t.fits) (hx : Lim t.l) (hsh : ((ao = none ∧ t.l.length = 0 ∧ ca = 0) ∨ ∃ a, ao = some a)) (hshb : ((bo = none ∧ ls.length = 0 ∧ cb = 0) ∨ ∃ a, bo = some a)) (w : World) (hw : I w) (hr : RdB w ao t.l) (hrk : RdS w bo ls) :
    Calls Tryz.prog 5 #[.agg #[.string (bs t.c), .bool t.f, .int .i64 t.r, .int .i64 t.n, .string (bs t.o), .slice ao t.l.length ca], .slice bo ls.length cb, .int .i64 pl] w fun e w' => e = .returned (.bool true) ∧ Below w.heap.size w w' := by
  have hl : t.l.length ≤ 140737488351232 := by omega
  have b0 := alloc_in w (.cells #[.string (bs t.c), .bool t.f, .int .i64 t.r, .int .i64 t.n, .string (bs t.o), .slice ao t.l.length ca] 27)
  have ht0 := Tq.new w t ao ca
  have hr0 := hr.below b0
  obtain ⟨w0, hw0⟩ : ∃ w0, w.alloc (.cells #[.string (bs t.c), .bool t.f, .int .i64 t.r, .int .i64 t.n, .string (bs t.o), .slice ao t.l.length ca] 27) = w0 := ⟨_, rfl⟩
  rw [hw0] at b0 ht0 hr0
  have HW0 := Lib.hid hw0
  have HW := Lib.hid (fun w1 (h : I w1) => K.works w1 h)
  have HK := Lib.hid (fun w1 (b : Below w.heap.size w w1) => K.keep w w1 hw b)
  have HRD := Lib.hid (fun w1 (b : Below w.heap.size w w1) => hr.below b)
  have HG := Lib.hid (fun a b c d e f => trapBack_good I K t ao ca ls bo cb pl hp0 hp1 hc ho hl48 hf hx hsh hshb w hw hr hrk a b c d e f)
  have HRK := Lib.hid (fun w1 (b : Below w.heap.size w w1) => hrk.below b)
  have hS1 := fun w1 (h : RdB w1 ao t.l) => small9_walk t ao ca hl ho hx w1 h
  clear hw0 hr hrk
  cases hs1 : sm9 t
  · rw [hs1] at hS1
    have HS1 := Lib.hid hS1
    clear hS1 K hs1 hshb hsh
    go_enter Tryz.func5, Tryz.ntmps5
    go_wp2_with fail
    rw [HW0.out]
    refine (HW.out _ (HK.out _ b0)).mono ?_
    rintro e w1 ⟨rfl, d1⟩
    have b1 := b0.trans (d1.mono b0.size)
    have ht1 := ht0.below d1
    have hr1 := hr0.below d1
    obtain ⟨y0, y1, y2, y3, y4, y5⟩ := ht1.cells
    clear d1 b0 ht0 hr0
    go_wp2_with fail
    refine (HS1.out _ hr1).mono ?_
    rintro e w2 ⟨rfl, d2⟩
    have b2 := b1.trans (d2.mono b1.size)
    have ht2 := ht1.below d2
    have hr2 := hr1.below d2
    clear y0 y1 y2 y3 y4 y5 d2 b1 ht1 hr1
    obtain ⟨y0, y1, y2, y3, y4, y5⟩ := ht2.cells
    go_wp2_with fail
    go_ret
    exact ⟨rfl, b2⟩
  have hq := sm9_lim hs1 hc hf hx
  rw [hs1] at hS1
  have HS1 := Lib.hid hS1
  have HSM9 := Lib.hid hs1
  clear hS1 hs1
  rcases Nat.lt_or_ge 50 ls.length with hn | hn
  · have hn1 : (50 : Int) < ((ls.length : Nat) : Int) := by omega
    clear K hshb hsh hn hq
    go_enter Tryz.func5, Tryz.ntmps5
    go_wp2_with fail
    rw [HW0.out]
    refine (HW.out _ (HK.out _ b0)).mono ?_
    rintro e w1 ⟨rfl, d1⟩
    have b1 := b0.trans (d1.mono b0.size)
    have ht1 := ht0.below d1
    have hr1 := hr0.below d1
    obtain ⟨y0, y1, y2, y3, y4, y5⟩ := ht1.cells
    clear d1 b0 ht0 hr0
    go_wp2_with fail
    refine (HS1.out _ hr1).mono ?_
    rintro e w2 ⟨rfl, d2⟩
    have b2 := b1.trans (d2.mono b1.size)
    have ht2 := ht1.below d2
    have hr2 := hr1.below d2
    clear y0 y1 y2 y3 y4 y5 d2 b1 ht1 hr1
    obtain ⟨y0, y1, y2, y3, y4, y5⟩ := ht2.cells
    go_wp2_with fail
    go_ret
    exact ⟨rfl, b2⟩
  have hn1 : ¬ (50 : Int) < ((ls.length : Nat) : Int) := by omega
  have hEp := fun w1 (h : I w1) (r : RdB w1 ao t.l) => K.encode t ao ca w1 hq hsh h r
  have hCp := fun w1 (h : I w1) (r : RdB w1 ao t.l) => K.check t ao ca w1 hq hsh h r
  rcases te_ways t with ⟨ha, hk, hb, hm⟩ | ⟨ha, hb⟩ | ⟨ha, hb, hd⟩
  rotate_left
  · rw [ha, hb] at hEp
    have HEp := Lib.hid hEp
    clear hEp hCp K hshb hsh hn hq ha hb
    go_enter Tryz.func5, Tryz.ntmps5
    go_wp2_with fail
    rw [HW0.out]
    refine (HW.out _ (HK.out _ b0)).mono ?_
    rintro e w1 ⟨rfl, d1⟩
    have b1 := b0.trans (d1.mono b0.size)
    have ht1 := ht0.below d1
    have hr1 := hr0.below d1
    obtain ⟨y0, y1, y2, y3, y4, y5⟩ := ht1.cells
    clear d1 b0 ht0 hr0
    go_wp2_with fail
    refine (HS1.out _ hr1).mono ?_
    rintro e w2 ⟨rfl, d2⟩
    have b2 := b1.trans (d2.mono b1.size)
    have ht2 := ht1.below d2
    have hr2 := hr1.below d2
    clear y0 y1 y2 y3 y4 y5 d2 b1 ht1 hr1
    obtain ⟨y0, y1, y2, y3, y4, y5⟩ := ht2.cells
    go_wp2_with fail
    refine (HEp.out _ (HK.out _ b2) hr2).mono ?_
    rintro e w3 ⟨rfl, d3⟩
    have b3 := b2.trans (d3.mono b2.size)
    have ht3 := ht2.below d3
    have hr3 := hr2.below d3
    clear y0 y1 y2 y3 y4 y5 d3 b2 ht2 hr2
    obtain ⟨y0, y1, y2, y3, y4, y5⟩ := ht3.cells
    go_wp2_with fail
    go_ret
    exact ⟨rfl, b3⟩
  · rw [ha, hb] at hEp
    rw [hd] at hCp
    have HEp := Lib.hid hEp
    have HCp := Lib.hid hCp
    clear hEp hCp K hshb hsh hn hq ha hb hd
    go_enter Tryz.func5, Tryz.ntmps5
    go_wp2_with fail
    rw [HW0.out]
    refine (HW.out _ (HK.out _ b0)).mono ?_
    rintro e w1 ⟨rfl, d1⟩
    have b1 := b0.trans (d1.mono b0.size)
    have ht1 := ht0.below d1
    have hr1 := hr0.below d1
    obtain ⟨y0, y1, y2, y3, y4, y5⟩ := ht1.cells
    clear d1 b0 ht0 hr0
    go_wp2_with fail
    refine (HS1.out _ hr1).mono ?_
    rintro e w2 ⟨rfl, d2⟩
    have b2 := b1.trans (d2.mono b1.size)
    have ht2 := ht1.below d2
    have hr2 := hr1.below d2
    clear y0 y1 y2 y3 y4 y5 d2 b1 ht1 hr1
    obtain ⟨y0, y1, y2, y3, y4, y5⟩ := ht2.cells
    go_wp2_with fail
    refine (HEp.out _ (HK.out _ b2) hr2).mono ?_
    rintro e w3 ⟨rfl, d3⟩
    have b3 := b2.trans (d3.mono b2.size)
    have ht3 := ht2.below d3
    have hr3 := hr2.below d3
    clear y0 y1 y2 y3 y4 y5 d3 b2 ht2 hr2
    obtain ⟨y0, y1, y2, y3, y4, y5⟩ := ht3.cells
    go_wp2_with fail
    refine (HCp.out _ (HK.out _ b3) hr3).mono ?_
    rintro e w4 ⟨rfl, d4⟩
    go_wp2_with fail
    go_ret
    exact ⟨rfl, b3.trans (d4.mono b3.size)⟩
  exact HG.out HSM9.out hn ha hk hb hm
end Go.Proofs.YtmdibafofdghgaaGreatDoor
