/- Texts on the program and on the document, joined: TrpV, TrpN, TrqD. -/
import Derived.Test.YtmdibafofdghgaaGreatDoorMa36
import Derived.Test.YtmdibafofdghgaaGreatDoorMa33
import Derived.Test.YtmdibafofdghgaaGreatDoorMa34
/- TrapAnswer, walked on calls that keep their word. -/
namespace Go.Proofs.YtmdibafofdghgaaGreatDoor
open Go.ChangeShapes Go.WideShapes Go.ChangeAt Go.RowKit K P1 B5
open D8 (Bd Un lst deU)
open T9 (Tr bU bI msg msgB ofU m3 deM)
set_option linter.unusedVariables false

theorem mg_cases (c : List UInt8) (u : Un) : ((msg c u).length ≤ 65535 ∧ mgE c u = 0 ∧ mgS c u = msg c u) ∨ (¬ (msg c u).length ≤ 65535 ∧ mgE c u = 2 ∧ mgS c u = []) := by
  unfold mgE mgS
  by_cases h : (msg c u).length ≤ 65535
  · rw [if_pos h, if_pos h]; exact .inl ⟨h, rfl, rfl⟩
  · rw [if_neg h, if_neg h]; exact .inr ⟨h, rfl, rfl⟩
/-- How an answer, and its trap's message, end. -/
inductive An (t : Tr) : Prop
  | trap (h : t.ok = false) (a : taE t = 90) (b : taS t = []) (c : teE t = 90)
  | none (h : t.ok = true) (hf : t.f = false) (a : taE t = 5) (b : taS t = [])
  | long (h : t.ok = true) (hf : t.f = true) (a : taE t = 2) (b : taS t = []) (c : teE t = 2)
  | yes (h : t.ok = true) (hf : t.f = true) (l1 : (msg t.c (t.as 162)).length ≤ 65535) (l2 : (msg t.c t.un).length ≤ 65535) (a : taE t = 0) (b : taS t = msg t.c (t.as 162)) (c : teE t = 0) (d : teS t = msg t.c t.un)
theorem an_all (t : Tr) : An t := by
  cases hk : t.ok
  · exact .trap hk (by unfold taE; rw [hk]; rfl) (by unfold taS; rw [hk]; rfl) (by unfold teE; rw [hk]; rfl)
  cases hf : t.f
  · exact .none hk hf (by unfold taE; rw [hk, hf]; rfl) (by unfold taS; rw [hk, hf]; rfl)
  have hlen := T9.as_len t 162 t.tag
  have e1 : taE t = mgE t.c (t.as 162) := by unfold taE; rw [hk, hf]; rfl
  have e2 : taS t = mgS t.c (t.as 162) := by unfold taS; rw [hk, hf]; rfl
  have e3 : teE t = mgE t.c t.un := by unfold teE; rw [hk]; rfl
  have e4 : teS t = mgS t.c t.un := by unfold teS; rw [hk]; rfl
  have hlen' : (msg t.c (t.as 162)).length = (msg t.c t.un).length := hlen
  rcases mg_cases t.c (t.as 162) with ⟨h, a, b⟩ | ⟨h, a, b⟩
  · rcases mg_cases t.c t.un with ⟨h2, a2, b2⟩ | ⟨h2, a2, b2⟩
    · exact .yes hk hf h h2 (e1.trans a) (e2.trans b) (e3.trans a2) (e4.trans b2)
    · omega
  · rcases mg_cases t.c t.un with ⟨h2, a2, b2⟩ | ⟨h2, a2, b2⟩
    · omega
    · exact .long hk hf (e1.trans a) (e2.trans b) (e3.trans a2)
set_option maxRecDepth 100000 in
set_option maxHeartbeats 4000000 in
theorem trapAnswer_walk (I : World → Prop) (K : TrpOk I) (t : Tr) (ao : Option Addr) (ca : Nat) (hc : t.c.length ≤ 140737488351232) (ho : t.o.length ≤ 140737488351232) (hl : t.l.length ≤ 140737488351232)
    (hf : t.fits) (hx : Lim t.l) (hsh : ((ao = none ∧ t.l.length = 0 ∧ ca = 0) ∨ ∃ a, ao = some a)) (w : World) (hw : I w) (hr : RdB w ao t.l) :
    Calls Tryz.prog 6 #[.agg #[.string (bs t.c), .bool t.f, .int .i64 t.r, .int .i64 t.n, .string (bs t.o), .slice ao t.l.length ca]] w fun e w' => e = .returned (.bool true) ∧ Below w.heap.size w w' := by
  have b0 := alloc_in w (.cells #[.string (bs t.c), .bool t.f, .int .i64 t.r, .int .i64 t.n, .string (bs t.o), .slice ao t.l.length ca] 27)
  have ht0 := Tq.new w t ao ca
  have hr0 := hr.below b0
  obtain ⟨w0, hw0⟩ : ∃ w0, w.alloc (.cells #[.string (bs t.c), .bool t.f, .int .i64 t.r, .int .i64 t.n, .string (bs t.o), .slice ao t.l.length ca] 27) = w0 := ⟨_, rfl⟩
  rw [hw0] at b0 ht0 hr0
  have HW0 := Lib.hid hw0
  have HW := Lib.hid (fun w1 (h : I w1) => K.works w1 h)
  have HK := Lib.hid (fun w1 (b : Below w.heap.size w w1) => K.keep w w1 hw b)
  have HTp := Lib.hid (fun w1 (b : Below w.heap.size w w1) => K.tp w1 (K.keep w w1 hw b))
  have hS1 := fun w1 (h : RdB w1 ao t.l) => small9_walk t ao ca hl ho hx w1 h
  clear hw0 hr
  cases hs1 : sm9 t
  · rw [hs1] at hS1
    have HS1 := Lib.hid hS1
    clear hS1 K hs1
    go_enter Tryz.func6, Tryz.ntmps6
    go_wp2_with fail
    rw [HW0.out]
    refine (HW.out _ (HK.out _ b0)).mono ?_
    rintro e w1 ⟨rfl, d1⟩
    have b1 := b0.trans (d1.mono b0.size)
    obtain ⟨y0, y1, y2, y3, y4, y5⟩ := (ht0.below d1).cells
    have hr1 := hr0.below d1
    go_wp2_with fail
    refine (HS1.out _ hr1).mono ?_
    rintro e w2 ⟨rfl, d2⟩
    go_wp2
    go_ret
    exact ⟨rfl, b1.trans (d2.mono b1.size)⟩
  have hq := sm9_lim hs1 hc hf hx
  rw [hs1] at hS1
  have HS1 := Lib.hid hS1
  have hEp := fun w1 (h : I w1) (r : RdB w1 ao t.l) => K.encode t ao ca w1 hq hsh h r
  have hAp := fun w1 (h : I w1) (r : RdB w1 ao t.l) => K.answer t ao ca w1 hq hsh h r
  have hways := an_all t
  clear hS1 hs1
  cases hways
  case trap hk a b c =>
    rw [a, b] at hAp
    rw [c] at hEp
    have HEp := Lib.hid hEp
    have HAp := Lib.hid hAp
    clear hEp hAp K hk a b c hq hsh hc ho hl hf hx
    generalize teS t = ES at *
    go_enter Tryz.func6, Tryz.ntmps6
    go_wp2_with fail
    rw [HW0.out]
    refine (HW.out _ (HK.out _ b0)).mono ?_
    rintro e w1 ⟨rfl, d1⟩
    have b1 := b0.trans (d1.mono b0.size)
    have ht1 := ht0.below d1
    have hr1 := hr0.below d1
    obtain ⟨y0, y1, y2, y3, y4, y5⟩ := ht1.cells
    clear d1 b0 ht0 hr0
    go_wp2_with fail
    refine (HS1.out _ hr1).mono ?_
    rintro e w2 ⟨rfl, d2⟩
    have b2 := b1.trans (d2.mono b1.size)
    have ht2 := ht1.below d2
    have hr2 := hr1.below d2
    clear y0 y1 y2 y3 y4 y5 d2 b1 ht1 hr1
    obtain ⟨y0, y1, y2, y3, y4, y5⟩ := ht2.cells
    go_wp2_with fail
    refine (HAp.out _ (HK.out _ b2) hr2).mono ?_
    rintro e w3 ⟨rfl, d3⟩
    have b3 := b2.trans (d3.mono b2.size)
    have ht3 := ht2.below d3
    have hr3 := hr2.below d3
    clear y0 y1 y2 y3 y4 y5 d3 b2 ht2 hr2
    obtain ⟨y0, y1, y2, y3, y4, y5⟩ := ht3.cells
    go_wp2_with fail
    refine (HEp.out _ (HK.out _ b3) hr3).mono ?_
    rintro e w4 ⟨rfl, d4⟩
    have b4 := b3.trans (d4.mono b3.size)
    have ht4 := ht3.below d4
    have hr4 := hr3.below d4
    clear y0 y1 y2 y3 y4 y5 d4 b3 ht3 hr3
    obtain ⟨y0, y1, y2, y3, y4, y5⟩ := ht4.cells
    go_wp2
    go_ret
    exact ⟨rfl, b4⟩
  case none hk hf2 a b =>
    rw [a, b] at hAp
    have HEp := Lib.hid hEp
    have HAp := Lib.hid hAp
    have HF := Lib.hid hf2
    clear hEp hAp K hk a b hf2 hq hsh hc ho hl hf hx
    generalize teS t = ES at *
    generalize teE t = EE at *
    go_enter Tryz.func6, Tryz.ntmps6
    go_wp2_with fail
    rw [HW0.out]
    refine (HW.out _ (HK.out _ b0)).mono ?_
    rintro e w1 ⟨rfl, d1⟩
    have b1 := b0.trans (d1.mono b0.size)
    have ht1 := ht0.below d1
    have hr1 := hr0.below d1
    obtain ⟨y0, y1, y2, y3, y4, y5⟩ := ht1.cells
    clear d1 b0 ht0 hr0
    go_wp2_with fail
    refine (HS1.out _ hr1).mono ?_
    rintro e w2 ⟨rfl, d2⟩
    have b2 := b1.trans (d2.mono b1.size)
    have ht2 := ht1.below d2
    have hr2 := hr1.below d2
    clear y0 y1 y2 y3 y4 y5 d2 b1 ht1 hr1
    obtain ⟨y0, y1, y2, y3, y4, y5⟩ := ht2.cells
    go_wp2_with fail
    refine (HAp.out _ (HK.out _ b2) hr2).mono ?_
    rintro e w3 ⟨rfl, d3⟩
    have b3 := b2.trans (d3.mono b2.size)
    have ht3 := ht2.below d3
    have hr3 := hr2.below d3
    clear y0 y1 y2 y3 y4 y5 d3 b2 ht2 hr2
    obtain ⟨y0, y1, y2, y3, y4, y5⟩ := ht3.cells
    go_wp2_with fail
    refine (HEp.out _ (HK.out _ b3) hr3).mono ?_
    rintro e w4 ⟨rfl, d4⟩
    have b4 := b3.trans (d4.mono b3.size)
    have ht4 := ht3.below d4
    have hr4 := hr3.below d4
    clear y0 y1 y2 y3 y4 y5 d4 b3 ht3 hr3
    obtain ⟨y0, y1, y2, y3, y4, y5⟩ := ht4.cells
    rw [HF.out] at y1
    cases hee : (((EE : Nat) : Int) == 5)
    all_goals
      go_wp2
      go_ret
      exact ⟨rfl, b4⟩
  case long hk hf2 a b c =>
    rw [a, b] at hAp
    rw [c] at hEp
    have HEp := Lib.hid hEp
    have HAp := Lib.hid hAp
    clear hEp hAp K hk a b c hf2 hq hsh hc ho hl hf hx
    generalize teS t = ES at *
    go_enter Tryz.func6, Tryz.ntmps6
    go_wp2_with fail
    rw [HW0.out]
    refine (HW.out _ (HK.out _ b0)).mono ?_
    rintro e w1 ⟨rfl, d1⟩
    have b1 := b0.trans (d1.mono b0.size)
    have ht1 := ht0.below d1
    have hr1 := hr0.below d1
    obtain ⟨y0, y1, y2, y3, y4, y5⟩ := ht1.cells
    clear d1 b0 ht0 hr0
    go_wp2_with fail
    refine (HS1.out _ hr1).mono ?_
    rintro e w2 ⟨rfl, d2⟩
    have b2 := b1.trans (d2.mono b1.size)
    have ht2 := ht1.below d2
    have hr2 := hr1.below d2
    clear y0 y1 y2 y3 y4 y5 d2 b1 ht1 hr1
    obtain ⟨y0, y1, y2, y3, y4, y5⟩ := ht2.cells
    go_wp2_with fail
    refine (HAp.out _ (HK.out _ b2) hr2).mono ?_
    rintro e w3 ⟨rfl, d3⟩
    have b3 := b2.trans (d3.mono b2.size)
    have ht3 := ht2.below d3
    have hr3 := hr2.below d3
    clear y0 y1 y2 y3 y4 y5 d3 b2 ht2 hr2
    obtain ⟨y0, y1, y2, y3, y4, y5⟩ := ht3.cells
    go_wp2_with fail
    refine (HEp.out _ (HK.out _ b3) hr3).mono ?_
    rintro e w4 ⟨rfl, d4⟩
    have b4 := b3.trans (d4.mono b3.size)
    have ht4 := ht3.below d4
    have hr4 := hr3.below d4
    clear y0 y1 y2 y3 y4 y5 d4 b3 ht3 hr3
    obtain ⟨y0, y1, y2, y3, y4, y5⟩ := ht4.cells
    go_wp2
    go_ret
    exact ⟨rfl, b4⟩
  case yes hk hf2 l1 l2 a b c d =>
    rw [a, b] at hAp
    rw [c, d] at hEp
    have hun := un_of hk
    have hu2 : (t.as 162).ok = true := by rw [T9.as_ok t (.inl rfl) (.inr (T9.tag_of t))]; exact hun.1
    have htag : t.tag = 166 := by unfold Tr.tag; rw [hf2]; rfl
    have hD := fun ko kc w1 (h : I w1) (h2 : RdS w1 ko [t.c]) => K.decode (msg t.c (t.as 162)) [t.c] ko kc w1 (by omega) (by simp) h h2
    unfold DtPost at hD
    rw [(dt_no (fun _ => T9.deM_answer hk hf) [t.c]).1, (dt_no (fun _ => T9.deM_answer hk hf) [t.c]).2] at hD
    have hU1 : ∀ w1, Tp w1 → Calls Tryz.prog 23 #[.string (bs (msg t.c (t.as 162)))] w1 fun e w' => ∃ xo xc, e = .returned (.tuple #[.agg #[.int .i64 162, .int .i64 t.r, .int .i64 0, .int .i64 0, .slice xo (t.l.length + 2) xc], .bool true]) ∧ RdB w' xo (t.as 0).l ∧ Below w1.heap.size w1 w' := fun w1 h => lawunit_walk t.c hun.2.2 (t.as 162) hu2 (T9.Tr.fit hf 162) l1 w1 h
    have hU2 : ∀ w1, Tp w1 → Calls Tryz.prog 23 #[.string (bs (msg t.c t.un))] w1 fun e w' => ∃ xo xc, e = .returned (.tuple #[.agg #[.int .i64 t.tag, .int .i64 t.r, .int .i64 0, .int .i64 0, .slice xo (t.l.length + 2) xc], .bool true]) ∧ RdB w' xo (t.as 0).l ∧ Below w1.heap.size w1 w' := fun w1 h => lawunit_walk t.c hun.2.2 t.un hun.1 (T9.Tr.fit hf t.tag) l2 w1 h
    rw [htag] at hU2
    have hS8 : ∀ xo yo xc yc w1, RdB w1 xo (t.as 0).l → RdB w1 yo (t.as 0).l → Calls Tryz.prog 24 #[.agg #[.int .i64 0, .int .i64 0, .int .i64 0, .int .i64 0, .slice xo (t.l.length + 2) xc], .agg #[.int .i64 0, .int .i64 0, .int .i64 0, .int .i64 0, .slice yo (t.l.length + 2) yc]] w1 fun e w' => e = .returned (.bool true) ∧ Below w1.heap.size w1 w' := fun xo yo xc yc w1 h1 h2 => by
      have := same8_walk ⟨0, 0, 0, 0, (t.as 0).l⟩ ⟨0, 0, 0, 0, (t.as 0).l⟩ xo yo xc yc (show t.l.length + 2 ≤ _ by have := hq.2.2.1; omega) (show t.l.length + 2 ≤ _ by have := hq.2.2.1; omega) w1 h1 h2
      rw [sameU_self] at this
      exact this
    have hz1 : IntKind.i64.wrap (((t.l.length : Nat) : Int) + 2) = ((t.l.length : Nat) : Int) + 2 := IntWalk.i64_in _ (by have := hq.2.2.1; omega)
    have hz2 : (((t.l.length + 2 : Nat) : Int) == ((t.l.length : Nat) : Int) + 2) = true := by rw [beq_iff_eq]; omega
    have e1 : (t.r == t.r) = true := by simp
    have HEp := Lib.hid hEp
    have HAp := Lib.hid hAp
    have HD := Lib.hid hD
    have HU1 := Lib.hid hU1
    have HU2 := Lib.hid hU2
    have HS8 := Lib.hid hS8
    have HF := Lib.hid hf2
    clear hEp hAp hD hU1 hU2 hS8 K hk a b c d hf2 hq hsh hc ho hl hf hx l1 l2 hun hu2 htag
    generalize msg t.c (t.as 162) = MA at *
    generalize msg t.c t.un = ME at *
    go_enter Tryz.func6, Tryz.ntmps6
    go_wp2_with fail
    rw [HW0.out]
    refine (HW.out _ (HK.out _ b0)).mono ?_
    rintro e w1 ⟨rfl, d1⟩
    have b1 := b0.trans (d1.mono b0.size)
    have ht1 := ht0.below d1
    have hr1 := hr0.below d1
    obtain ⟨y0, y1, y2, y3, y4, y5⟩ := ht1.cells
    clear d1 b0 ht0 hr0
    go_wp2_with fail
    refine (HS1.out _ hr1).mono ?_
    rintro e w2 ⟨rfl, d2⟩
    have b2 := b1.trans (d2.mono b1.size)
    have ht2 := ht1.below d2
    have hr2 := hr1.below d2
    clear y0 y1 y2 y3 y4 y5 d2 b1 ht1 hr1
    obtain ⟨y0, y1, y2, y3, y4, y5⟩ := ht2.cells
    go_wp2_with fail
    refine (HAp.out _ (HK.out _ b2) hr2).mono ?_
    rintro e w3 ⟨rfl, d3⟩
    have b3 := b2.trans (d3.mono b2.size)
    have ht3 := ht2.below d3
    have hr3 := hr2.below d3
    clear y0 y1 y2 y3 y4 y5 d3 b2 ht2 hr2
    obtain ⟨y0, y1, y2, y3, y4, y5⟩ := ht3.cells
    go_wp2_with fail
    refine (HEp.out _ (HK.out _ b3) hr3).mono ?_
    rintro e w4 ⟨rfl, d4⟩
    have b4 := b3.trans (d4.mono b3.size)
    have ht4 := ht3.below d4
    have hr4 := hr3.below d4
    clear y0 y1 y2 y3 y4 y5 d4 b3 ht3 hr3
    obtain ⟨y0, y1, y2, y3, y4, y5⟩ := ht4.cells
    have a5 := alloc_in w4 (.cells #[.string (bs t.c)] 9)
    have hk5 := rds_one w4 t.c
    have b5 := b4.trans (a5.mono b4.size)
    have ht5 := ht4.below a5
    clear a5 b4 ht4 hr4
    go_wp2_with fail
    refine (HD.out _ _ _ (HK.out _ b5) hk5).mono ?_
    rintro e w5 ⟨zo, zc, rfl, -, d5⟩
    have a5 := alloc_in w5 (.cells #[.string (bs not9.c), .bool not9.f, .int .i64 not9.r, .int .i64 not9.n, .string (bs not9.o), .slice zo not9.l.length zc] 27)
    have b6 := (b5.trans (d5.mono b5.size)).trans (a5.mono (b5.trans (d5.mono b5.size)).size)
    have ht6 := (ht5.below d5).below a5
    clear y0 y1 y2 y3 y4 y5
    go_wp2_with fail
    generalize w5.alloc (.cells #[.string (bs not9.c), .bool not9.f, .int .i64 not9.r, .int .i64 not9.n, .string (bs not9.o), .slice zo not9.l.length zc] 27) = w5b at *
    refine (HU1.out _ (HTp.out _ b6)).mono ?_
    rintro e w6 ⟨xo, xc, rfl, hr6, d6⟩
    have a7 := alloc_in w6 (.cells #[.int .i64 162, .int .i64 t.r, .int .i64 0, .int .i64 0, .slice xo (t.l.length + 2) xc] 41)
    have hA7 := Uq.new 41 w6 (t.as 162) xo xc
    have b7 := (b6.trans (d6.mono b6.size)).trans (a7.mono (b6.trans (d6.mono b6.size)).size)
    have ht7 := (ht6.below d6).below a7
    have hr7 := hr6.below a7
    clear d6 a7 b6 ht6 hr6 d5 b5 ht5 hk5 a5
    go_wp2_with fail
    refine (HU2.out _ (HTp.out _ b7)).mono ?_
    rintro e w8 ⟨yo, yc, rfl, hr8, d8⟩
    have a9 := alloc_in w8 (.cells #[.int .i64 166, .int .i64 t.r, .int .i64 0, .int .i64 0, .slice yo (t.l.length + 2) yc] 41)
    have hB9 := Uq.new 41 w8 (t.as 166) yo yc
    have b9 := (b7.trans (d8.mono b7.size)).trans (a9.mono (b7.trans (d8.mono b7.size)).size)
    have ht9 := (ht7.below d8).below a9
    have hr9 := (hr7.below d8).below a9
    have hs9 := hr8.below a9
    have hA9 := (hA7.below d8).below a9
    clear d8 a9 b7 ht7 hr7 hr8 hA7
    obtain ⟨y0, y1, y2, y3, y4, y5⟩ := ht9.cells
    obtain ⟨p0, p1, p2, p3, p4⟩ := hA9.cells
    obtain ⟨q0, q1, q2, q3, q4⟩ := hB9.cells
    rw [HF.out] at y1
    change _ = some (Value.slice xo (t.l.length + 2) xc) at p4
    go_wp2_with fail
    refine (HS8.out xo yo xc yc _ hr9 hs9).mono ?_
    rintro e w10 ⟨rfl, d10⟩
    have ht10 := ht9.below d10
    have hA10 := hA9.below d10
    have hB10 := hB9.below d10
    have b10 := b9.trans (d10.mono b9.size)
    clear y0 y1 y2 y3 y4 y5 p0 p1 p2 p3 p4 q0 q1 q2 q3 q4 d10 b9 hr9 hs9 ht9 hA9 hB9
    obtain ⟨y0, y1, y2, y3, y4, y5⟩ := ht10.cells
    obtain ⟨p0, p1, p2, p3, p4⟩ := hA10.cells
    obtain ⟨q0, q1, q2, q3, q4⟩ := hB10.cells
    change _ = some (Value.slice xo (t.l.length + 2) xc) at p4
    go_wp2_with fail
    go_ret
    exact ⟨rfl, b10⟩
end Go.Proofs.YtmdibafofdghgaaGreatDoor
/- Two appends to a list of texts in one drawn region: a list of one's own, spread, and one text behind it; what stays. -/
namespace Go.Proofs.YtmdibafofdghgaaGreatDoor
open Go.ChangeShapes Go.WideShapes Go.ChangeAt Go.RowKit K P1 B5
open D8 (Bd Un lst deU)
open T9 (Tr)
set_option linter.unusedVariables false

theorem spread_keepS {W w' : World} {B : Nat} {v : Value} {xs : List (List UInt8)} (hown : OwnS W B 9 v xs) (hg : W.grownBy w' v.ownBlock) {k : Nat} {cs : Array Value} {T : TypeId} {fr : Nat × Nat} (hk : W.heap[k]? = some (.cells cs T fr)) (hT : T ≠ 9) : w'.heap[k]? = some (.cells cs T fr) := by
  refine (hg.block k (lt_of_block hk) ?_).trans hk
  intro e
  rcases hown.2 with ⟨hv, _⟩ | ⟨g, cap, cur, hv, hB, hh, hle, hm, hs, ht⟩
  · rw [hv] at e; cases e
  · rw [hv] at e
    have e3 : k = g := by simpa [Value.ownBlock] using e
    have e2 : g = k := e3.symm
    rw [e2] at hh
    rw [hk] at hh
    simp at hh
    exact hT hh.2.1
/-- The first append: what it is given is new, what another block holds stays. -/
theorem app1s {o : Oper} {a : Act} {K : Act → World → Prop} {Q : Exit → Act → World → Prop} {W w : World} {s x : Operand} (ho : o.op = .call { callee := .builtin .append, args := #[s, x], argTypes := #[22, 22] }) (k : Nat) (hs : a.eval s = .slice (some ⟨k, 0, none⟩) 0 0) (hown : OwnS W w.heap.size 9 (.slice (some ⟨k, 0, none⟩) 0 0) [])
    {ls : List (List UInt8)} {bo : Option Addr} {cb : Nat} (hx : a.eval x = .slice bo ls.length cb) (hr : RdS W bo ls) (hsh : (bo = none ∧ ls.length = 0 ∧ cb = 0) ∨ ∃ a, bo = some a) (hn : ls.length ≤ 1000000) {bt : Nat} {t : Tr} {ao : Option Addr} {ca : Nat} (O : Tq W bt t ao ca) (b : Below w.heap.size w W)
    (h : ∀ v' x1, OwnS x1 w.heap.size 9 v' ls → Tq x1 bt t ao ca → x1.cell? ⟨bt, 0, none⟩ = some (.string (bs t.c)) → Below w.heap.size w x1 → w.heap.size ≤ x1.heap.size → (∀ kc c, kc ≠ k → W.heap[kc]? = some (.cells #[.string (bs c)] 9 (0, 0)) → x1.heap[kc]? = some (.cells #[.string (bs c)] 9 (0, 0))) → K (a.put o.dst v') x1) : o.wp Tryz.prog a W K Q := by
  refine spreadS (xs := []) ho _ hs hown b.size hx hr hsh (by show 0 + ls.length ≤ _; omega) ?_
  intro v' x1 ho1 hg
  have O1 : Tq x1 bt t ao ca := spread_keepS hown hg O (by decide)
  have b1 := b.grown hg b.size (fun k hk => (World.ownsRow.lt hown k hk).1)
  refine h v' x1 ho1 O1 O1.cells.1 b1 b1.size ?_
  intro kc c hne hk
  refine (hg.block kc (lt_of_block hk) ?_).trans hk
  intro e
  exact hne (Option.some.inj e).symm.symm
/-- The second: one text behind. -/
theorem app2s {o : Oper} {a : Act} {K : Act → World → Prop} {Q : Exit → Act → World → Prop} {W w : World} {s x : Operand} (ho : o.op = .call { callee := .builtin .append, args := #[s, x], argTypes := #[22, 22] }) (v : Value) (hs : a.eval s = v) {ls : List (List UInt8)} (hown : OwnS W w.heap.size 9 v ls)
    (kc : Nat) {c : List UInt8} (hx : a.eval x = .slice (some ⟨kc, 0, none⟩) 1 1) (hm : W.heap[kc]? = some (.cells #[.string (bs c)] 9 (0, 0))) (hn : ls.length ≤ 1000000) {bt : Nat} {t : Tr} {ao : Option Addr} {ca : Nat} (O : Tq W bt t ao ca) (b : Below w.heap.size w W)
    (h : ∀ (g : Option Addr) (cap : Nat) (x2 : World), RdS x2 g (ls ++ [c]) → Tq x2 bt t ao ca → x2.cell? ⟨bt, 0, none⟩ = some (.string (bs t.c)) → Below w.heap.size w x2 → K (a.put o.dst (.slice g (ls.length + 1) cap)) x2) : o.wp Tryz.prog a W K Q := by
  have hr : RdS W (some ⟨kc, 0, none⟩) [c] := .inr ⟨kc, 0, rfl, lt_of_block hm, fun i hi => by
    obtain rfl : i = 0 := by simpa using hi
    rw [cellRow hm]; rfl⟩
  refine spreadS ho v hs hown b.size (ys := [c]) hx hr (.inr ⟨_, rfl⟩) (by show ls.length + 1 ≤ _; omega) ?_
  intro v' x2 ho2 hg
  have O2 : Tq x2 bt t ao ca := spread_keepS hown hg O (by decide)
  have b2 := b.grown hg b.size (fun k hk => (World.ownsRow.lt hown k hk).1)
  obtain ⟨g, cap, hv, -, -, hr2, -⟩ := OwnS.form ho2
  rw [List.length_append, List.length_singleton] at hv
  subst hv
  exact h g cap x2 hr2 O2 O2.cells.1 b2
end Go.Proofs.YtmdibafofdghgaaGreatDoor
/- The program's open of a message, walked. -/
namespace Go.Proofs.YtmdibafofdghgaaGreatDoor
open Go.ChangeShapes Go.WideShapes Go.ChangeAt Go.RowKit K P1 B5
open D8 (Bd Un lst deU)
open T9 (Tr bU bI msg msgB ofU m3 deM)
set_option linter.unusedVariables false

theorem results_cell_mid3 {P : Program} {fn : Func} {p u v : Tmp} {ty : TypeId} (h : fn.results = #[.tmp u, .cell p ty, .tmp v]) (tmps : Array Value) (w : World) (g : Nat) (t : TypeId) (cs : Array Value) (fr : Nat × Nat) (d : TypeDesc)
    (hp : tmps.getD p undef = .pointer (some ⟨g, 0, none⟩)) (hg : w.heap[g]? = some (.cells cs t fr))
    (hu : P.underlying ty = some d) (hd : (match d with | .struct _ | .array _ _ => true | _ => false) = true) (hi : (P.info? ty).map (·.size) = some cs.size) :
    (results fn tmps).run P w = .ok (.tuple #[tmps.getD u undef, .agg cs, tmps.getD v undef]) w := by
  have hp' : tmps[p]?.getD undef = .pointer (some ⟨g, 0, none⟩) := by simpa using hp
  simp [results, h, hp', asAddr, run_loadVar_row w g t ty cs fr d hg hu hd hi]
/-- The community and the unit's element of a message. -/
def opn (s : List UInt8) : Option (List UInt8 × (Nat × List UInt8)) := if s.length ≤ 65535 then (match m3 s with | some m => if comB m.1 then some m else none | none => none) else none
def OpPost (s : List UInt8) (w : World) (e : Ending) (w' : World) : Prop :=
  (∃ c p, opn s = some (c, p) ∧ e = .returned (.tuple #[.string (bs c), .agg #[.int .i64 (p.1 : Nat), .string (bs p.2)], .bool true]) ∧ Below w.heap.size w w') ∨
  (opn s = none ∧ e = .returned (.tuple #[.string (bs []), .agg #[.int .i64 0, .string (bs [])], .bool false]) ∧ Below w.heap.size w w')
theorem opn_no {s : List UInt8} (h : s.length ≤ 65535 → m3 s = none) : opn s = none := by
  unfold opn
  by_cases hs : s.length ≤ 65535
  · rw [if_pos hs, h hs]
  · rw [if_neg hs]
def eqH (m a : Int) (b : List UInt8) (k m' a' : Int) (b' : List UInt8) (k' : Int) : Bool := (m == m') && ((a == a') && ((b == b') && (k == k')))
theorem eqH_iff (m a : Int) (b : List UInt8) (k m' a' : Int) (b' : List UInt8) (k' : Int) : eqH m a b k m' a' b' k' = true ↔ m = m' ∧ a = a' ∧ b = b' ∧ k = k' := by
  simp [eqH]
theorem run_equal_head (m a : Int) (b : List UInt8) (k m' a' : Int) (b' : List UInt8) (k' : Int) (w : World) : (Op.equalIn 10000 97 (.agg #[.int .i64 m, .int .i64 a, .string (bs b), .int .i64 k]) (.agg #[.int .i64 m', .int .i64 a', .string (bs b'), .int .i64 k'])).run Tryz.prog w = .ok (eqH m a b k m' a' b' k') w := by
  simp only [eqH]
  simp [go_sem, Tryz.underlying97, Tryz.underlying72]
  by_cases h1 : m = m'
  · by_cases h2 : a = a'
    · by_cases h3 : b = b'
      · by_cases h4 : k = k'
        · simp [h1, h2, h3, h4]
        · simp [h1, h2, h3, h4]
      · simp [h1, h2, h3]
    · simp [h1, h2]
  · simp [h1]
set_option maxRecDepth 100000 in
set_option maxHeartbeats 4000000 in
theorem open9_walk (s : List UInt8) (hs : s.length ≤ 140737488351232) (w : World) (T : Tw w) :
    Calls Tryz.prog 45 #[.string (bs s)] w (OpPost s w) := by
  have HNo := Lib.hid (fun (h : opn s = none) (w' : World) (k : Below w.heap.size w w') => (show OpPost s w (.returned (.tuple #[.string (bs []), .agg #[.int .i64 0, .string (bs [])], .bool false])) w' from .inr ⟨h, rfl, k⟩))
  have hq := Prt.new w 72 0 []
  have hb := alloc_in w (.cells #[.int .i64 0, .string (bs [])] 72)
  have HT := Lib.hid (T.below hb)
  clear T
  by_cases h65 : s.length ≤ 65535
  rotate_left
  · have h1 : (65535 : Int) < ((s.length : Nat) : Int) := by omega
    have HE := Lib.hid (opn_no (s := s) (fun h => absurd h h65))
    clear h65
    go_enter Tryz.func45, Tryz.ntmps45
    go_wp2
    refine bodyPost_ret (results_cell_mid3 rfl _ _ w.heap.size _ #[.int .i64 0, .string (bs [])] _ _ rfl hq Tryz.underlying72 rfl (by kernel_rfl)) rfl ?_
    exact HNo.out HE.out _ hb
  have h1 : ((s.length : Nat) : Int) ≤ 65535 := by omega
  cases hx : nxOk s
  · have HN := Lib.hid (fun w1 => next_no s hs hx w1)
    have HE := Lib.hid (opn_no (s := s) (fun _ => T9.m3_no (fun h => by rw [hx] at h; exact absurd h.1 (by simp))))
    clear hx h65
    go_enter Tryz.func45, Tryz.ntmps45
    go_wp2_with fail
    change Calls _ _ _ (w.alloc (.cells #[.int .i64 0, .string (bs [])] 72)) _
    refine (HN.out _).mono ?_
    rintro e w1 ⟨rfl, d1⟩
    have a1 := alloc_in w1 (.cells #[.int .i64 0, .string (bs [])] 72)
    replace hq : Prt (w1.alloc (.cells #[.int .i64 0, .string (bs [])] 72)) w.heap.size 72 0 [] := ((d1.trans (a1.mono d1.size)).block _ (lt_of_block hq)).trans hq
    replace hb := (hb.trans (d1.mono hb.size)).trans (a1.mono (hb.trans (d1.mono hb.size)).size)
    clear d1 a1 HT HN
    have PX := (hq.setT 0).setB []
    have bb := (hb.setCell (p := ⟨w.heap.size, 0, none⟩) (Nat.le_refl _) (.int .i64 0)).setCell (p := ⟨w.heap.size, 1, none⟩) (Nat.le_refl _) (.string (bs []))
    obtain ⟨c0, c1, f0, f1⟩ := hq.cells
    go_wp2
    refine bodyPost_ret (results_cell_mid3 rfl _ _ w.heap.size _ #[.int .i64 0, .string (bs [])] _ _ rfl PX Tryz.underlying72 rfl (by kernel_rfl)) rfl ?_
    exact HNo.out HE.out _ bb
  have HN := Lib.hid (fun w1 => next_ok s hs hx w1)
  have hbl := (nx_of hx).2.2.2.2
  by_cases hR : nxR s = []
  rotate_left
  · have hne : (nxR s).isEmpty = false := List.isEmpty_eq_false_iff.2 hR
    have HE := Lib.hid (opn_no (s := s) (fun _ => T9.m3_no (fun h => hR h.2)))
    clear hR hx hbl h65
    obtain ⟨T, hT⟩ : ∃ x, nxT s = x := ⟨_, rfl⟩
    obtain ⟨B, hB⟩ : ∃ x, nxB s = x := ⟨_, rfl⟩
    rw [hT, hB] at HN
    generalize nxR s = R at *
    clear hT hB
    go_enter Tryz.func45, Tryz.ntmps45
    go_wp2_with fail
    change Calls _ _ _ (w.alloc (.cells #[.int .i64 0, .string (bs [])] 72)) _
    refine (HN.out _).mono ?_
    rintro e w1 ⟨rfl, d1⟩
    have a1 := alloc_in w1 (.cells #[.int .i64 (T : Nat), .string (bs B)] 72)
    replace hq : Prt (w1.alloc (.cells #[.int .i64 (T : Nat), .string (bs B)] 72)) w.heap.size 72 0 [] := ((d1.trans (a1.mono d1.size)).block _ (lt_of_block hq)).trans hq
    replace hb := (hb.trans (d1.mono hb.size)).trans (a1.mono (hb.trans (d1.mono hb.size)).size)
    clear d1 a1 HT HN
    have PX := (hq.setT 0).setB []
    have bb := (hb.setCell (p := ⟨w.heap.size, 0, none⟩) (Nat.le_refl _) (.int .i64 0)).setCell (p := ⟨w.heap.size, 1, none⟩) (Nat.le_refl _) (.string (bs []))
    obtain ⟨c0, c1, f0, f1⟩ := hq.cells
    go_wp2
    refine bodyPost_ret (results_cell_mid3 rfl _ _ w.heap.size _ #[.int .i64 0, .string (bs [])] _ _ rfl PX Tryz.underlying72 rfl (by kernel_rfl)) rfl ?_
    exact HNo.out HE.out _ bb
  have HP := Lib.hid (fun w1 => parts_list_walk (nxB s) (by omega) w1)
  unfold PaPost at HP
  have HX := Lib.hid (⟨hx, hR⟩ : nxOk s = true ∧ nxR s = [])
  have HS := Lib.hid h65
  rw [hR] at HN
  have HBL := Lib.hid hbl
  clear hx hR hbl h65
  go_enter Tryz.func45, Tryz.ntmps45
  go_wp2_with fail
  change Calls _ _ _ (w.alloc (.cells #[.int .i64 0, .string (bs [])] 72)) _
  refine (HN.out _).mono ?_
  rintro e w1 ⟨rfl, d1⟩
  have a1 := alloc_in w1 (.cells #[.int .i64 (nxT s : Nat), .string (bs (nxB s))] 72)
  have hp := Prt.new w1 72 (nxT s : Nat) (nxB s)
  replace hq : Prt (w1.alloc (.cells #[.int .i64 (nxT s : Nat), .string (bs (nxB s))] 72)) w.heap.size 72 0 [] := ((d1.trans (a1.mono d1.size)).block _ (lt_of_block hq)).trans hq
  replace HT := Lib.hid ((HT.out.below d1).below a1)
  replace hb := (hb.trans (d1.mono hb.size)).trans (a1.mono (hb.trans (d1.mono hb.size)).size)
  clear d1 a1 HN
  obtain ⟨x0, x1, y0, y1⟩ := hp.cells
  go_wp2_with fail
  refine (HP.out _).mono ?_
  rintro e w3 (⟨c, h', rfl, d3⟩ | ⟨ps, v, h', rfl, ho, d3⟩)
  · have hc : (((c : Nat) : Int) != 0) = true := by rw [bne_iff_ne]; rcases prt_err h' with rfl | rfl <;> decide
    have HE := Lib.hid (opn_no (s := s) (fun _ => m3_not3 (fun h => by
      obtain ⟨_, _, _, ps', h3, _⟩ := h
      rw [h'] at h3; cases h3)))
    replace hq : Prt w3 w.heap.size 72 0 [] := (d3.block _ (lt_of_block hq)).trans hq
    replace hb := hb.trans (d3.mono hb.size)
    clear h' d3 x0 x1 y0 y1 hp HT HP HX
    have PX := (hq.setT 0).setB []
    have bb := (hb.setCell (p := ⟨w.heap.size, 0, none⟩) (Nat.le_refl _) (.int .i64 0)).setCell (p := ⟨w.heap.size, 1, none⟩) (Nat.le_refl _) (.string (bs []))
    obtain ⟨c0, c1, f0, f1⟩ := hq.cells
    go_wp2
    refine bodyPost_ret (results_cell_mid3 rfl _ _ w.heap.size _ #[.int .i64 0, .string (bs [])] _ _ rfl PX Tryz.underlying72 rfl (by kernel_rfl)) rfl ?_
    exact HNo.out HE.out _ bb
  obtain ⟨po, pc, rfl, hf⟩ := ho.form
  replace hq : Prt w3 w.heap.size 72 0 [] := (d3.block _ (lt_of_block hq)).trans hq
  replace hp : Prt w3 w1.heap.size 72 (nxT s : Nat) (nxB s) := (d3.block _ (lt_of_block hp)).trans hp
  replace hb := hb.trans (d3.mono hb.size)
  replace HT := Lib.hid (HT.out.below d3)
  clear x0 x1 y0 y1 ho d3 HP
  by_cases h3 : ps.length = 3
  rotate_left
  · have h3' : (((ps.length : Nat) : Int) != 3) = true := by rw [bne_iff_ne]; omega
    have HE := Lib.hid (opn_no (s := s) (fun _ => m3_not3 (fun h => by
      obtain ⟨_, _, _, ps', h4, h5⟩ := h
      rw [h'] at h4; injection h4 with h4; rw [← h4] at h5; exact h3 h5)))
    clear h' hp HT HX h3 hf
    have PX := (hq.setT 0).setB []
    have bb := (hb.setCell (p := ⟨w.heap.size, 0, none⟩) (Nat.le_refl _) (.int .i64 0)).setCell (p := ⟨w.heap.size, 1, none⟩) (Nat.le_refl _) (.string (bs []))
    obtain ⟨c0, c1, f0, f1⟩ := hq.cells
    go_wp2
    refine bodyPost_ret (results_cell_mid3 rfl _ _ w.heap.size _ #[.int .i64 0, .string (bs [])] _ _ rfl PX Tryz.underlying72 rfl (by kernel_rfl)) rfl ?_
    exact HNo.out HE.out _ bb
  obtain ⟨p1, p2, p3, rfl⟩ := three_of h3
  have HM := Lib.hid (m3_is HX.out.1 HX.out.2 h')
  have hm := prt_mem _ _ (nxB s) _ (Nat.le_refl _) h'
  have m2 := (hm p2 (by simp)).2
  clear h3 h' hm
  rcases hf with h0 | ⟨g, rfl, hg1, hg2, hg⟩
  · simp at h0
  obtain ⟨g0, g1⟩ := hg 0 (by simp)
  obtain ⟨g2, g3⟩ := hg 1 (by simp)
  obtain ⟨g4, g5⟩ := hg 2 (by simp)
  simp only [List.getD_cons_zero, List.getD_cons_succ, Nat.zero_mul, Nat.one_mul, Nat.reduceMul, Nat.reduceAdd, Nat.zero_add] at g0 g1 g2 g3 g4 g5
  obtain ⟨a1, l1⟩ := p1
  obtain ⟨a2, l2⟩ := p2
  obtain ⟨a3, l3⟩ := p3
  simp only [] at *
  clear hg
  rw [show ([(a1, l1), (a2, l2), (a3, l3)] : List (Nat × List UInt8)).length = 3 from rfl]
  obtain ⟨x0, x1, y0, y1⟩ := hp.cells
  obtain ⟨v0, v1, v2, v3⟩ := HT.out.2
  have hI := fun w1 => iscommunity_walk l2 w1
  have hq1 := run_equal_head 48 2 [1] 4 (nxT s : Nat) (a1 : Nat) l1 (a2 : Nat)
  have HBA := Lib.hid hb
  have HQA := Lib.hid hq
  clear hb hq hp
  cases hd : eqH 48 2 [1] 4 (nxT s : Nat) (a1 : Nat) l1 (a2 : Nat)
  · rw [hd] at hq1
    have HE := Lib.hid (opn_no (s := s) (fun _ => by
      rw [HM.out, if_neg]
      rintro ⟨e1, e2, e3⟩
      simp only [Prod.mk.injEq] at e2
      have := (eqH_iff 48 2 [1] 4 (nxT s : Nat) (a1 : Nat) l1 (a2 : Nat)).2 ⟨by rw [e1]; rfl, by rw [e2.1]; rfl, e2.2.symm, by rw [e3]; rfl⟩
      rw [this] at hd; cases hd))
    clear hd HM hI m2 g4 g5 y0 y1
    go_wp2_with fail
    first | (go_quiet (fail)) | fail
    all_goals
      have hb := (Below_drewNa HBA.out nq)
      have hq : Prt (w3.drewN nq) w.heap.size 72 0 [] := HQA.out
      have PX := (hq.setT 0).setB []
      have bb := (hb.setCell (p := ⟨w.heap.size, 0, none⟩) (Nat.le_refl _) (.int .i64 0)).setCell (p := ⟨w.heap.size, 1, none⟩) (Nat.le_refl _) (.string (bs []))
      obtain ⟨c0, c1, f0, f1⟩ := hq.cells
      go_wp2
      refine bodyPost_ret (results_cell_mid3 rfl _ _ w.heap.size _ #[.int .i64 0, .string (bs [])] _ _ rfl PX Tryz.underlying72 rfl (by kernel_rfl)) rfl ?_
      exact HNo.out HE.out _ bb
  · rw [hd] at hq1
    obtain ⟨e1, e2, e3, e4⟩ := (eqH_iff 48 2 [1] 4 (nxT s : Nat) (a1 : Nat) l1 (a2 : Nat)).1 hd
    have HM2 := Lib.hid (show m3 s = some (l2, (a3, l3)) from by
      rw [HM.out, if_pos]
      exact ⟨by omega, by rw [← e3, show a1 = 2 by omega], by omega⟩)
    clear hd HM e1 e2 e3 e4
    cases hc : comB l2
    · rw [hc] at hI
      have HI := Lib.hid hI
      have HE := Lib.hid (show opn s = none by unfold opn; rw [if_pos HS.out, HM2.out]; show (if comB l2 = true then _ else _) = _; rw [hc]; rfl)
      clear hc hI m2 g4 g5 y0 y1
      go_wp2_with fail
      go_quiet (first | (go_at_call 37; with_reducible refine Calls.quiet_mk (HI.out _)))
      have hb := (Below_drewNa HBA.out nq)
      have hq : Prt (w3.drewN nq) w.heap.size 72 0 [] := HQA.out
      have PX := (hq.setT 0).setB []
      have bb := (hb.setCell (p := ⟨w.heap.size, 0, none⟩) (Nat.le_refl _) (.int .i64 0)).setCell (p := ⟨w.heap.size, 1, none⟩) (Nat.le_refl _) (.string (bs []))
      obtain ⟨c0, c1, f0, f1⟩ := hq.cells
      go_wp2
      refine bodyPost_ret (results_cell_mid3 rfl _ _ w.heap.size _ #[.int .i64 0, .string (bs [])] _ _ rfl PX Tryz.underlying72 rfl (by kernel_rfl)) rfl ?_
      exact HNo.out HE.out _ bb
    · rw [hc] at hI
      have HI := Lib.hid hI
      have HE := Lib.hid (show opn s = some (l2, (a3, l3)) by unfold opn; rw [if_pos HS.out, HM2.out]; show (if comB l2 = true then _ else _) = _; rw [hc]; rfl)
      clear hc hI m2 y0 y1
      go_wp2_with fail
      go_quiet (first | (go_at_call 37; with_reducible refine Calls.quiet_mk (HI.out _)))
      have G3 : (w3.drewN nq).cell? ⟨g, 3, none⟩ = some (.string (bs l2)) := g3
      have G4 : (w3.drewN nq).cell? ⟨g, 4, none⟩ = some (.int .i64 (a3 : Nat)) := g4
      have G5 : (w3.drewN nq).cell? ⟨g, 5, none⟩ = some (.string (bs l3)) := g5
      have hb := (Below_drewNa HBA.out nq)
      have hq : Prt (w3.drewN nq) w.heap.size 72 0 [] := HQA.out
      clear g0 g1 g2 g3 g4 g5 x0 x1 v0 v1 v2 v3 HBA HQA HI HM2 hq1 HNo
      generalize w3.drewN nq = w5 at *
      obtain ⟨c0, c1, f0, f1⟩ := hq.cells
      go_wp2_with fail
      first
        | (go_region_with (fail))
        | fail
      all_goals
        have PX := (hq.setT (a3 : Nat)).setB l3
        have bb := (hb.setCell (p := ⟨w.heap.size, 0, none⟩) (Nat.le_refl _) (.int .i64 (a3 : Nat))).setCell (p := ⟨w.heap.size, 1, none⟩) (Nat.le_refl _) (.string (bs l3))
        go_wp2
        refine bodyPost_ret (results_cell_mid3 rfl _ _ w.heap.size _ #[.int .i64 (a3 : Nat), .string (bs l3)] _ _ rfl PX Tryz.underlying72 rfl (by kernel_rfl)) rfl ?_
        exact .inl ⟨l2, (a3, l3), HE.out, rfl, ⟨bb.os, bb.tape, bb.output, bb.size, bb.block⟩⟩
end Go.Proofs.YtmdibafofdghgaaGreatDoor
