/- Texts on the program and on the document, joined: TrpV, TrpY. -/
import Derived.Test.YtdgnhcbhbpffmaaGreatDoorMa41
import Derived.Test.YtdgnhcbhbpffmaaGreatDoorMa35
import Derived.Test.YtdgnhcbhbpffmaaGreatDoorMa26
import Derived.Deep.DeepCutAuto
/- TrapAnswer, walked on calls that keep their word. -/
namespace Go.Proofs.YtdgnhcbhbpffmaaGreatDoor
open Go.ChangeShapes Go.WideShapes Go.ChangeAt Go.RowKit K P1 B5
open D8 (Bd Un lst deU)
open T9 (Tr bU bI msg msgB ofU m3 deM)
set_option linter.unusedVariables false

theorem mg_cases (c : List UInt8) (u : Un) : ((msg c u).length ≤ 65535 ∧ mgE c u = 0 ∧ mgS c u = msg c u) ∨ (¬ (msg c u).length ≤ 65535 ∧ mgE c u = 2 ∧ mgS c u = []) := by
  unfold mgE mgS
  by_cases h : (msg c u).length ≤ 65535
  · rw [if_pos h, if_pos h]; exact .inl ⟨h, rfl, rfl⟩
  · rw [if_neg h, if_neg h]; exact .inr ⟨h, rfl, rfl⟩
/-- How an answer, and its trap's message, end. -/
inductive An (t : Tr) : Prop
  | trap (h : t.ok = false) (a : taE t = 90) (b : taS t = []) (c : teE t = 90)
  | none (h : t.ok = true) (hf : t.f = false) (a : taE t = 5) (b : taS t = [])
  | long (h : t.ok = true) (hf : t.f = true) (a : taE t = 2) (b : taS t = []) (c : teE t = 2)
  | yes (h : t.ok = true) (hf : t.f = true) (l1 : (msg t.c (t.as 162)).length ≤ 65535) (l2 : (msg t.c t.un).length ≤ 65535) (a : taE t = 0) (b : taS t = msg t.c (t.as 162)) (c : teE t = 0) (d : teS t = msg t.c t.un)
theorem an_all (t : Tr) : An t := by
  cases hk : t.ok
  · exact .trap hk (by unfold taE; rw [hk]; rfl) (by unfold taS; rw [hk]; rfl) (by unfold teE; rw [hk]; rfl)
  cases hf : t.f
  · exact .none hk hf (by unfold taE; rw [hk, hf]; rfl) (by unfold taS; rw [hk, hf]; rfl)
  have hlen := T9.as_len t 162 t.tag
  have e1 : taE t = mgE t.c (t.as 162) := by unfold taE; rw [hk, hf]; rfl
  have e2 : taS t = mgS t.c (t.as 162) := by unfold taS; rw [hk, hf]; rfl
  have e3 : teE t = mgE t.c t.un := by unfold teE; rw [hk]; rfl
  have e4 : teS t = mgS t.c t.un := by unfold teS; rw [hk]; rfl
  have hlen' : (msg t.c (t.as 162)).length = (msg t.c t.un).length := hlen
  rcases mg_cases t.c (t.as 162) with ⟨h, a, b⟩ | ⟨h, a, b⟩
  · rcases mg_cases t.c t.un with ⟨h2, a2, b2⟩ | ⟨h2, a2, b2⟩
    · exact .yes hk hf h h2 (e1.trans a) (e2.trans b) (e3.trans a2) (e4.trans b2)
    · omega
  · rcases mg_cases t.c t.un with ⟨h2, a2, b2⟩ | ⟨h2, a2, b2⟩
    · omega
    · exact .long hk hf (e1.trans a) (e2.trans b) (e3.trans a2)
set_option maxRecDepth 100000 in
set_option maxHeartbeats 4000000 in
theorem trapAnswer_walk (I : World → Prop) (K : TrpOk I) (t : Tr) (ao : Option Addr) (ca : Nat) (hc : t.c.length ≤ 140737488351232) (ho : t.o.length ≤ 140737488351232) (hl : t.l.length ≤ 140737488351232)
    (hf : t.fits) (hx : Lim t.l) (hsh : ((ao = none ∧ t.l.length = 0 ∧ ca = 0) ∨ ∃ a, ao = some a)) (w : World) (hw : I w) (hr : RdB w ao t.l) :
    Calls Tryz.prog 6 #[.agg #[.string (bs t.c), .bool t.f, .int .i64 t.r, .int .i64 t.n, .string (bs t.o), .slice ao t.l.length ca]] w fun e w' => e = .returned (.bool true) ∧ Below w.heap.size w w' := by
  have b0 := alloc_in w (.cells #[.string (bs t.c), .bool t.f, .int .i64 t.r, .int .i64 t.n, .string (bs t.o), .slice ao t.l.length ca] 27)
  have ht0 := Tq.new w t ao ca
  have hr0 := hr.below b0
  obtain ⟨w0, hw0⟩ : ∃ w0, w.alloc (.cells #[.string (bs t.c), .bool t.f, .int .i64 t.r, .int .i64 t.n, .string (bs t.o), .slice ao t.l.length ca] 27) = w0 := ⟨_, rfl⟩
  rw [hw0] at b0 ht0 hr0
  have HW0 := Lib.hid hw0
  have HW := Lib.hid (fun w1 (h : I w1) => K.works w1 h)
  have HK := Lib.hid (fun w1 (b : Below w.heap.size w w1) => K.keep w w1 hw b)
  have HTp := Lib.hid (fun w1 (b : Below w.heap.size w w1) => K.tp w1 (K.keep w w1 hw b))
  have hS1 := fun w1 (h : RdB w1 ao t.l) => small9_walk t ao ca hl ho hx w1 h
  clear hw0 hr
  cases hs1 : sm9 t
  · rw [hs1] at hS1
    have HS1 := Lib.hid hS1
    clear hS1 K hs1
    go_enter Tryz.func6, Tryz.ntmps6
    go_wp2_with fail
    rw [HW0.out]
    refine (HW.out _ (HK.out _ b0)).mono ?_
    rintro e w1 ⟨rfl, d1⟩
    have b1 := b0.trans (d1.mono b0.size)
    obtain ⟨y0, y1, y2, y3, y4, y5⟩ := (ht0.below d1).cells
    have hr1 := hr0.below d1
    go_wp2_with fail
    refine (HS1.out _ hr1).mono ?_
    rintro e w2 ⟨rfl, d2⟩
    go_wp2
    go_ret
    exact ⟨rfl, b1.trans (d2.mono b1.size)⟩
  have hq := sm9_lim hs1 hc hf hx
  rw [hs1] at hS1
  have HS1 := Lib.hid hS1
  have hEp := fun w1 (h : I w1) (r : RdB w1 ao t.l) => K.encode t ao ca w1 hq hsh h r
  have hAp := fun w1 (h : I w1) (r : RdB w1 ao t.l) => K.answer t ao ca w1 hq hsh h r
  have hways := an_all t
  clear hS1 hs1
  cases hways
  case trap hk a b c =>
    rw [a, b] at hAp
    rw [c] at hEp
    have HEp := Lib.hid hEp
    have HAp := Lib.hid hAp
    clear hEp hAp K hk a b c hq hsh hc ho hl hf hx
    generalize teS t = ES at *
    go_enter Tryz.func6, Tryz.ntmps6
    go_wp2_with fail
    rw [HW0.out]
    refine (HW.out _ (HK.out _ b0)).mono ?_
    rintro e w1 ⟨rfl, d1⟩
    have b1 := b0.trans (d1.mono b0.size)
    have ht1 := ht0.below d1
    have hr1 := hr0.below d1
    obtain ⟨y0, y1, y2, y3, y4, y5⟩ := ht1.cells
    clear d1 b0 ht0 hr0
    go_wp2_with fail
    refine (HS1.out _ hr1).mono ?_
    rintro e w2 ⟨rfl, d2⟩
    have b2 := b1.trans (d2.mono b1.size)
    have ht2 := ht1.below d2
    have hr2 := hr1.below d2
    clear y0 y1 y2 y3 y4 y5 d2 b1 ht1 hr1
    obtain ⟨y0, y1, y2, y3, y4, y5⟩ := ht2.cells
    go_wp2_with fail
    refine (HAp.out _ (HK.out _ b2) hr2).mono ?_
    rintro e w3 ⟨rfl, d3⟩
    have b3 := b2.trans (d3.mono b2.size)
    have ht3 := ht2.below d3
    have hr3 := hr2.below d3
    clear y0 y1 y2 y3 y4 y5 d3 b2 ht2 hr2
    obtain ⟨y0, y1, y2, y3, y4, y5⟩ := ht3.cells
    go_wp2_with fail
    refine (HEp.out _ (HK.out _ b3) hr3).mono ?_
    rintro e w4 ⟨rfl, d4⟩
    have b4 := b3.trans (d4.mono b3.size)
    have ht4 := ht3.below d4
    have hr4 := hr3.below d4
    clear y0 y1 y2 y3 y4 y5 d4 b3 ht3 hr3
    obtain ⟨y0, y1, y2, y3, y4, y5⟩ := ht4.cells
    go_wp2
    go_ret
    exact ⟨rfl, b4⟩
  case none hk hf2 a b =>
    rw [a, b] at hAp
    have HEp := Lib.hid hEp
    have HAp := Lib.hid hAp
    have HF := Lib.hid hf2
    clear hEp hAp K hk a b hf2 hq hsh hc ho hl hf hx
    generalize teS t = ES at *
    generalize teE t = EE at *
    go_enter Tryz.func6, Tryz.ntmps6
    go_wp2_with fail
    rw [HW0.out]
    refine (HW.out _ (HK.out _ b0)).mono ?_
    rintro e w1 ⟨rfl, d1⟩
    have b1 := b0.trans (d1.mono b0.size)
    have ht1 := ht0.below d1
    have hr1 := hr0.below d1
    obtain ⟨y0, y1, y2, y3, y4, y5⟩ := ht1.cells
    clear d1 b0 ht0 hr0
    go_wp2_with fail
    refine (HS1.out _ hr1).mono ?_
    rintro e w2 ⟨rfl, d2⟩
    have b2 := b1.trans (d2.mono b1.size)
    have ht2 := ht1.below d2
    have hr2 := hr1.below d2
    clear y0 y1 y2 y3 y4 y5 d2 b1 ht1 hr1
    obtain ⟨y0, y1, y2, y3, y4, y5⟩ := ht2.cells
    go_wp2_with fail
    refine (HAp.out _ (HK.out _ b2) hr2).mono ?_
    rintro e w3 ⟨rfl, d3⟩
    have b3 := b2.trans (d3.mono b2.size)
    have ht3 := ht2.below d3
    have hr3 := hr2.below d3
    clear y0 y1 y2 y3 y4 y5 d3 b2 ht2 hr2
    obtain ⟨y0, y1, y2, y3, y4, y5⟩ := ht3.cells
    go_wp2_with fail
    refine (HEp.out _ (HK.out _ b3) hr3).mono ?_
    rintro e w4 ⟨rfl, d4⟩
    have b4 := b3.trans (d4.mono b3.size)
    have ht4 := ht3.below d4
    have hr4 := hr3.below d4
    clear y0 y1 y2 y3 y4 y5 d4 b3 ht3 hr3
    obtain ⟨y0, y1, y2, y3, y4, y5⟩ := ht4.cells
    rw [HF.out] at y1
    cases hee : (((EE : Nat) : Int) == 5)
    all_goals
      go_wp2
      go_ret
      exact ⟨rfl, b4⟩
  case long hk hf2 a b c =>
    rw [a, b] at hAp
    rw [c] at hEp
    have HEp := Lib.hid hEp
    have HAp := Lib.hid hAp
    clear hEp hAp K hk a b c hf2 hq hsh hc ho hl hf hx
    generalize teS t = ES at *
    go_enter Tryz.func6, Tryz.ntmps6
    go_wp2_with fail
    rw [HW0.out]
    refine (HW.out _ (HK.out _ b0)).mono ?_
    rintro e w1 ⟨rfl, d1⟩
    have b1 := b0.trans (d1.mono b0.size)
    have ht1 := ht0.below d1
    have hr1 := hr0.below d1
    obtain ⟨y0, y1, y2, y3, y4, y5⟩ := ht1.cells
    clear d1 b0 ht0 hr0
    go_wp2_with fail
    refine (HS1.out _ hr1).mono ?_
    rintro e w2 ⟨rfl, d2⟩
    have b2 := b1.trans (d2.mono b1.size)
    have ht2 := ht1.below d2
    have hr2 := hr1.below d2
    clear y0 y1 y2 y3 y4 y5 d2 b1 ht1 hr1
    obtain ⟨y0, y1, y2, y3, y4, y5⟩ := ht2.cells
    go_wp2_with fail
    refine (HAp.out _ (HK.out _ b2) hr2).mono ?_
    rintro e w3 ⟨rfl, d3⟩
    have b3 := b2.trans (d3.mono b2.size)
    have ht3 := ht2.below d3
    have hr3 := hr2.below d3
    clear y0 y1 y2 y3 y4 y5 d3 b2 ht2 hr2
    obtain ⟨y0, y1, y2, y3, y4, y5⟩ := ht3.cells
    go_wp2_with fail
    refine (HEp.out _ (HK.out _ b3) hr3).mono ?_
    rintro e w4 ⟨rfl, d4⟩
    have b4 := b3.trans (d4.mono b3.size)
    have ht4 := ht3.below d4
    have hr4 := hr3.below d4
    clear y0 y1 y2 y3 y4 y5 d4 b3 ht3 hr3
    obtain ⟨y0, y1, y2, y3, y4, y5⟩ := ht4.cells
    go_wp2
    go_ret
    exact ⟨rfl, b4⟩
  case yes hk hf2 l1 l2 a b c d =>
    rw [a, b] at hAp
    rw [c, d] at hEp
    have hun := un_of hk
    have hu2 : (t.as 162).ok = true := by rw [T9.as_ok t (.inl rfl) (.inr (T9.tag_of t))]; exact hun.1
    have htag : t.tag = 166 := by unfold Tr.tag; rw [hf2]; rfl
    have hD := fun ko kc w1 (h : I w1) (h2 : RdS w1 ko [t.c]) => K.decode (msg t.c (t.as 162)) [t.c] ko kc w1 (by omega) (by simp) h h2
    unfold DtPost at hD
    rw [(dt_no (fun _ => T9.deM_answer hk hf) [t.c]).1, (dt_no (fun _ => T9.deM_answer hk hf) [t.c]).2] at hD
    have hU1 : ∀ w1, Tp w1 → Calls Tryz.prog 23 #[.string (bs (msg t.c (t.as 162)))] w1 fun e w' => ∃ xo xc, e = .returned (.tuple #[.agg #[.int .i64 162, .int .i64 t.r, .int .i64 0, .int .i64 0, .slice xo (t.l.length + 2) xc], .bool true]) ∧ RdB w' xo (t.as 0).l ∧ Below w1.heap.size w1 w' := fun w1 h => lawunit_walk t.c hun.2.2 (t.as 162) hu2 (T9.Tr.fit hf 162) l1 w1 h
    have hU2 : ∀ w1, Tp w1 → Calls Tryz.prog 23 #[.string (bs (msg t.c t.un))] w1 fun e w' => ∃ xo xc, e = .returned (.tuple #[.agg #[.int .i64 t.tag, .int .i64 t.r, .int .i64 0, .int .i64 0, .slice xo (t.l.length + 2) xc], .bool true]) ∧ RdB w' xo (t.as 0).l ∧ Below w1.heap.size w1 w' := fun w1 h => lawunit_walk t.c hun.2.2 t.un hun.1 (T9.Tr.fit hf t.tag) l2 w1 h
    rw [htag] at hU2
    have hS8 : ∀ xo yo xc yc w1, RdB w1 xo (t.as 0).l → RdB w1 yo (t.as 0).l → Calls Tryz.prog 24 #[.agg #[.int .i64 0, .int .i64 0, .int .i64 0, .int .i64 0, .slice xo (t.l.length + 2) xc], .agg #[.int .i64 0, .int .i64 0, .int .i64 0, .int .i64 0, .slice yo (t.l.length + 2) yc]] w1 fun e w' => e = .returned (.bool true) ∧ Below w1.heap.size w1 w' := fun xo yo xc yc w1 h1 h2 => by
      have := same8_walk ⟨0, 0, 0, 0, (t.as 0).l⟩ ⟨0, 0, 0, 0, (t.as 0).l⟩ xo yo xc yc (show t.l.length + 2 ≤ _ by have := hq.2.2.1; omega) (show t.l.length + 2 ≤ _ by have := hq.2.2.1; omega) w1 h1 h2
      rw [sameU_self] at this
      exact this
    have hz1 : IntKind.i64.wrap (((t.l.length : Nat) : Int) + 2) = ((t.l.length : Nat) : Int) + 2 := IntWalk.i64_in _ (by have := hq.2.2.1; omega)
    have hz2 : (((t.l.length + 2 : Nat) : Int) == ((t.l.length : Nat) : Int) + 2) = true := by rw [beq_iff_eq]; omega
    have e1 : (t.r == t.r) = true := by simp
    have HEp := Lib.hid hEp
    have HAp := Lib.hid hAp
    have HD := Lib.hid hD
    have HU1 := Lib.hid hU1
    have HU2 := Lib.hid hU2
    have HS8 := Lib.hid hS8
    have HF := Lib.hid hf2
    clear hEp hAp hD hU1 hU2 hS8 K hk a b c d hf2 hq hsh hc ho hl hf hx l1 l2 hun hu2 htag
    generalize msg t.c (t.as 162) = MA at *
    generalize msg t.c t.un = ME at *
    go_enter Tryz.func6, Tryz.ntmps6
    go_wp2_with fail
    rw [HW0.out]
    refine (HW.out _ (HK.out _ b0)).mono ?_
    rintro e w1 ⟨rfl, d1⟩
    have b1 := b0.trans (d1.mono b0.size)
    have ht1 := ht0.below d1
    have hr1 := hr0.below d1
    obtain ⟨y0, y1, y2, y3, y4, y5⟩ := ht1.cells
    clear d1 b0 ht0 hr0
    go_wp2_with fail
    refine (HS1.out _ hr1).mono ?_
    rintro e w2 ⟨rfl, d2⟩
    have b2 := b1.trans (d2.mono b1.size)
    have ht2 := ht1.below d2
    have hr2 := hr1.below d2
    clear y0 y1 y2 y3 y4 y5 d2 b1 ht1 hr1
    obtain ⟨y0, y1, y2, y3, y4, y5⟩ := ht2.cells
    go_wp2_with fail
    refine (HAp.out _ (HK.out _ b2) hr2).mono ?_
    rintro e w3 ⟨rfl, d3⟩
    have b3 := b2.trans (d3.mono b2.size)
    have ht3 := ht2.below d3
    have hr3 := hr2.below d3
    clear y0 y1 y2 y3 y4 y5 d3 b2 ht2 hr2
    obtain ⟨y0, y1, y2, y3, y4, y5⟩ := ht3.cells
    go_wp2_with fail
    refine (HEp.out _ (HK.out _ b3) hr3).mono ?_
    rintro e w4 ⟨rfl, d4⟩
    have b4 := b3.trans (d4.mono b3.size)
    have ht4 := ht3.below d4
    have hr4 := hr3.below d4
    clear y0 y1 y2 y3 y4 y5 d4 b3 ht3 hr3
    obtain ⟨y0, y1, y2, y3, y4, y5⟩ := ht4.cells
    have a5 := alloc_in w4 (.cells #[.string (bs t.c)] 9)
    have hk5 := rds_one w4 t.c
    have b5 := b4.trans (a5.mono b4.size)
    have ht5 := ht4.below a5
    clear a5 b4 ht4 hr4
    go_wp2_with fail
    refine (HD.out _ _ _ (HK.out _ b5) hk5).mono ?_
    rintro e w5 ⟨zo, zc, rfl, -, d5⟩
    have a5 := alloc_in w5 (.cells #[.string (bs not9.c), .bool not9.f, .int .i64 not9.r, .int .i64 not9.n, .string (bs not9.o), .slice zo not9.l.length zc] 27)
    have b6 := (b5.trans (d5.mono b5.size)).trans (a5.mono (b5.trans (d5.mono b5.size)).size)
    have ht6 := (ht5.below d5).below a5
    clear y0 y1 y2 y3 y4 y5
    go_wp2_with fail
    generalize w5.alloc (.cells #[.string (bs not9.c), .bool not9.f, .int .i64 not9.r, .int .i64 not9.n, .string (bs not9.o), .slice zo not9.l.length zc] 27) = w5b at *
    refine (HU1.out _ (HTp.out _ b6)).mono ?_
    rintro e w6 ⟨xo, xc, rfl, hr6, d6⟩
    have a7 := alloc_in w6 (.cells #[.int .i64 162, .int .i64 t.r, .int .i64 0, .int .i64 0, .slice xo (t.l.length + 2) xc] 41)
    have hA7 := Uq.new 41 w6 (t.as 162) xo xc
    have b7 := (b6.trans (d6.mono b6.size)).trans (a7.mono (b6.trans (d6.mono b6.size)).size)
    have ht7 := (ht6.below d6).below a7
    have hr7 := hr6.below a7
    clear d6 a7 b6 ht6 hr6 d5 b5 ht5 hk5 a5
    go_wp2_with fail
    refine (HU2.out _ (HTp.out _ b7)).mono ?_
    rintro e w8 ⟨yo, yc, rfl, hr8, d8⟩
    have a9 := alloc_in w8 (.cells #[.int .i64 166, .int .i64 t.r, .int .i64 0, .int .i64 0, .slice yo (t.l.length + 2) yc] 41)
    have hB9 := Uq.new 41 w8 (t.as 166) yo yc
    have b9 := (b7.trans (d8.mono b7.size)).trans (a9.mono (b7.trans (d8.mono b7.size)).size)
    have ht9 := (ht7.below d8).below a9
    have hr9 := (hr7.below d8).below a9
    have hs9 := hr8.below a9
    have hA9 := (hA7.below d8).below a9
    clear d8 a9 b7 ht7 hr7 hr8 hA7
    obtain ⟨y0, y1, y2, y3, y4, y5⟩ := ht9.cells
    obtain ⟨p0, p1, p2, p3, p4⟩ := hA9.cells
    obtain ⟨q0, q1, q2, q3, q4⟩ := hB9.cells
    rw [HF.out] at y1
    change _ = some (Value.slice xo (t.l.length + 2) xc) at p4
    go_wp2_with fail
    refine (HS8.out xo yo xc yc _ hr9 hs9).mono ?_
    rintro e w10 ⟨rfl, d10⟩
    have ht10 := ht9.below d10
    have hA10 := hA9.below d10
    have hB10 := hB9.below d10
    have b10 := b9.trans (d10.mono b9.size)
    clear y0 y1 y2 y3 y4 y5 p0 p1 p2 p3 p4 q0 q1 q2 q3 q4 d10 b9 hr9 hs9 ht9 hA9 hB9
    obtain ⟨y0, y1, y2, y3, y4, y5⟩ := ht10.cells
    obtain ⟨p0, p1, p2, p3, p4⟩ := hA10.cells
    obtain ⟨q0, q1, q2, q3, q4⟩ := hB10.cells
    change _ = some (Value.slice xo (t.l.length + 2) xc) at p4
    go_wp2_with fail
    go_ret
    exact ⟨rfl, b10⟩
end Go.Proofs.YtdgnhcbhbpffmaaGreatDoor
/- TrapSame, walked on calls that keep their word. -/
namespace Go.Proofs.YtdgnhcbhbpffmaaGreatDoor
open Go.ChangeShapes Go.WideShapes Go.ChangeAt Go.RowKit K P1 B5
open D8 (Bd Un lst deU)
open T9 (Tr bU bI msg msgB ofU m3 deM)
set_option linter.unusedVariables false

theorem xor_ne (r : Int) (h0 : -9223372036854775808 ≤ r) (h1 : r ≤ 9223372036854775807) : bits .xor .i64 r 1 ≠ r := by
  intro h
  have h2 : bits .xor .i64 r 1 = wrap64 (((BitVec.ofInt 64 r ^^^ BitVec.ofInt 64 1).toNat : Nat) : Int) := by
    show IntKind.i64.wrap (((BitVec.ofInt 64 r ^^^ BitVec.ofInt 64 1).toNat : Nat) : Int) = _
    rw [IntKind.wrap_i64, wrap64_eq]
  rw [h2] at h
  rw [wrap64_eq] at h
  have hx : (BitVec.ofInt 64 r).toNat = (BitVec.ofInt 64 r ^^^ BitVec.ofInt 64 1).toNat := by
    have hl := (BitVec.ofInt 64 r ^^^ BitVec.ofInt 64 1).isLt
    rw [BitVec.toNat_ofInt]
    generalize (BitVec.ofInt 64 r ^^^ BitVec.ofInt 64 1).toNat = m at *
    omega
  have hb := BitVec.eq_of_toNat_eq hx
  have hz : (BitVec.ofInt 64 1 : BitVec 64) = 0#64 := by
    have := congrArg (fun z => BitVec.ofInt 64 r ^^^ z) hb
    simp only [BitVec.xor_self, ← BitVec.xor_assoc, BitVec.zero_xor] at this
    exact this.symm
  exact absurd hz (by decide)
/-- The bind of nothing. -/
def zeroB : Bd := ⟨[], 0, 0, []⟩
/-- The sixth part of a number, from 0 on. -/
theorem six_ways (x : Int) : belowN x 6 = 0 ∨ belowN x 6 = 1 ∨ belowN x 6 = 2 ∨ belowN x 6 = 3 ∨ belowN x 6 = 4 ∨ belowN x 6 = 5 := by
  have := belowN_bounds x 6 (by omega)
  omega
set_option maxRecDepth 100000 in
set_option maxHeartbeats 4000000 in
theorem trapSame_walk (I : World → Prop) (K : TrpOk I) (t u : Tr) (ao bo : Option Addr) (ca cb : Nat) (which : Int) (hi0 : -9223372036854775808 ≤ which) (hi1 : which ≤ 9223372036854775807) (hc : t.c.length ≤ 140737488351232) (ho : t.o.length ≤ 140737488351232) (hl : t.l.length * 48 ≤ 140737488351232) (hl2 : u.l.length * 48 ≤ 140737488351232)
    (hf : t.fits) (hr1 : -9223372036854775808 ≤ t.r ∧ t.r ≤ 9223372036854775807) (hx : Lim t.l) (hx2 : Lim u.l) (hsh : ((ao = none ∧ t.l.length = 0 ∧ ca = 0) ∨ ∃ a, ao = some a)) (w : World) (hw : I w) (hr : RdB w ao t.l) (hr2 : RdB w bo u.l) :
    Calls Tryz.prog 7 #[.agg #[.string (bs t.c), .bool t.f, .int .i64 t.r, .int .i64 t.n, .string (bs t.o), .slice ao t.l.length ca], .agg #[.string (bs u.c), .bool u.f, .int .i64 u.r, .int .i64 u.n, .string (bs u.o), .slice bo u.l.length cb], .int .i64 which] w fun e w' => e = .returned (.bool true) ∧ Below w.heap.size w w' := by
  obtain ⟨w0, hw0, ht0, hu0, b0⟩ := two_traps w t u ao bo ca cb
  have H0 : Ht w0 w.heap.size (w.heap.size + 1) t u ao bo ca cb := ⟨ht0, hu0, hr.below b0, hr2.below b0⟩
  have HW0 := Lib.hid hw0
  have HW := Lib.hid (fun w1 (h : I w1) => K.works w1 h)
  have HK := Lib.hid (fun w1 (b : Below w.heap.size w w1) => K.keep w w1 hw b)
  have hS11 := fun w1 (h : I w1) (r : RdB w1 ao t.l) => K.same t t ao ao ca ca w1 (by omega) (by omega) h r r
  have hS12 := fun w1 (h : I w1) (r : RdB w1 ao t.l) (r2 : RdB w1 bo u.l) => K.same t u ao bo ca cb w1 (by omega) (by omega) h r r2
  have hS21 := fun w1 (h : I w1) (r2 : RdB w1 bo u.l) (r : RdB w1 ao t.l) => K.same u t bo ao cb ca w1 (by omega) (by omega) h r2 r
  rw [sameT_self] at hS11
  rw [sameT_comm u t] at hS21
  generalize sameT t u = SV at *
  have HS11 := Lib.hid hS11
  have HS12 := Lib.hid hS12
  have HS21 := Lib.hid hS21
  have HSv := Lib.hid (fun (v : Tr) (vo : Option Addr) (cv : Nat) (hne : ¬ t = v) (hvl : v.l.length * 48 ≤ 140737488351280) w1 (h : I w1) (r : RdB w1 ao t.l) (r2 : RdB w1 vo v.l) => (show Calls Tryz.prog 21 #[.agg #[.string (bs t.c), .bool t.f, .int .i64 t.r, .int .i64 t.n, .string (bs t.o), .slice ao t.l.length ca], .agg #[.string (bs v.c), .bool v.f, .int .i64 v.r, .int .i64 v.n, .string (bs v.o), .slice vo v.l.length cv]] w1 fun e w' => e = .returned (.bool false) ∧ Below w1.heap.size w1 w' from by
    have := K.same t v ao vo ca cv w1 (by omega) hvl h r r2
    rw [sameT_not hne] at this; exact this))
  have HB := Lib.hid (fun w1 => below_walk which 6 hi0 hi1 (by omega) (by omega) w1)
  have s1 : (SV == SV) = true := by simp
  have s2 : (SV != SV) = false := by simp
  have HRD := Lib.hid (fun w1 (b : Below w.heap.size w w1) => hr.below b)
  clear hw0 hr hr2 ht0 hu0 hS11 hS12 hS21 K
  have zS := twelve H0.1 H0.2.1
  have hways := six_ways which
  generalize belowN which 6 = bw at *
  go_enter Tryz.func7, Tryz.ntmps7
  go_wp2_with fail
  rw [HW0.out]
  go_region_held3 (fun x => x.cell? ⟨w.heap.size, 0, none⟩ = some (.string (bs t.c)) ∧ x.cell? ⟨w.heap.size, 1, none⟩ = some (.bool t.f) ∧ x.cell? ⟨w.heap.size, 2, none⟩ = some (.int .i64 t.r) ∧ x.cell? ⟨w.heap.size, 3, none⟩ = some (.int .i64 t.n) ∧ x.cell? ⟨w.heap.size, 4, none⟩ = some (.string (bs t.o)) ∧ x.cell? ⟨w.heap.size, 5, none⟩ = some (.slice ao t.l.length ca) ∧ x.cell? ⟨w.heap.size + 1, 0, none⟩ = some (.string (bs u.c)) ∧ x.cell? ⟨w.heap.size + 1, 1, none⟩ = some (.bool u.f) ∧ x.cell? ⟨w.heap.size + 1, 2, none⟩ = some (.int .i64 u.r) ∧ x.cell? ⟨w.heap.size + 1, 3, none⟩ = some (.int .i64 u.n) ∧ x.cell? ⟨w.heap.size + 1, 4, none⟩ = some (.string (bs u.o)) ∧ x.cell? ⟨w.heap.size + 1, 5, none⟩ = some (.slice bo u.l.length cb)) (first | exact zS4 | exact zS3 | exact zS2 | exact zS1 | exact zS)
    (first
      | (have _g := zS3; clear _g; go_at_call 21; refine (HS21.out _ (by exact HK.out _ bX3) (by exact HX3.2.2.2) (by exact HX3.2.2.1)).mono ?_; rintro e x4 ⟨rfl, j4⟩; have k4 : Below x3.heap.size x3 x4 := ⟨j4.os, j4.tape, j4.output, j4.size, j4.block⟩; have HX4 := HX3.below k4; have bX4 := bX3.trans (k4.mono bX3.size); have zS4 := twelve HX4.1 HX4.2.1)
      | (have _g := zS2; clear _g; go_at_call 21; refine (HS12.out _ (by exact HK.out _ bX2) (by exact HX2.2.2.1) (by exact HX2.2.2.2)).mono ?_; rintro e x3 ⟨rfl, j3⟩; have k3 : Below x2.heap.size x2 x3 := ⟨j3.os, j3.tape, j3.output, j3.size, j3.block⟩; have HX3 := HX2.below k3; have bX3 := bX2.trans (k3.mono bX2.size); have zS3 := twelve HX3.1 HX3.2.1)
      | (have _g := zS1; clear _g; go_at_call 21; refine (HS11.out _ (by exact HK.out _ bX1) (by exact HX1.2.2.1)).mono ?_; rintro e x2 ⟨rfl, j2⟩; have k2 : Below x1.heap.size x1 x2 := ⟨j2.os, j2.tape, j2.output, j2.size, j2.block⟩; have HX2 := HX1.below k2; have bX2 := bX1.trans (k2.mono bX1.size); have zS2 := twelve HX2.1 HX2.2.1)
      | (have _g := zS; clear _g; go_at_call 8; refine (HW.out _ (by exact HK.out _ ⟨b0.os, b0.tape, b0.output, b0.size, b0.block⟩)).mono ?_; rintro e x1 ⟨rfl, j1⟩; have k1 : Below w0.heap.size w0 x1 := ⟨j1.os, j1.tape, j1.output, j1.size, j1.block⟩; have HX1 := H0.below k1; have bX1 := b0.trans (k1.mono b0.size); have zS1 := twelve HX1.1 HX1.2.1))
  have ht4 := HX4.1
  have hr4 := HX4.2.2.1
  clear zS zS1 zS2 zS3 zS4 HX1 HX2 HX3 HX4 j1 k1 j2 k2 j3 k3 j4 k4 bX1 bX2 bX3 H0 b0 HS11 HS12 HS21 HW0 HW s1 s2
  clear hl2 hx2
  have aV := alloc_in x4 (.cells #[.string (bs t.c), .bool t.f, .int .i64 t.r, .int .i64 t.n, .string (bs t.o), .slice ao t.l.length ca] 27)
  have hv5 := Tq.new x4 t ao ca
  have ht5 := ht4.below aV
  have hr5 := hr4.below aV
  have b5 := bX4.trans (aV.mono bX4.size)
  obtain ⟨y0, y1, y2, y3, y4, y5⟩ := ht4.cells
  go_wp2_with fail
  refine (HB.out _).mono ?_
  rintro e w5 ⟨rfl, rfl⟩
  obtain ⟨z0, z1, z2, z3, z4, z5⟩ := hv5.cells
  have hfz := hv5.free
  rcases hways with h | h | h | h | h | h <;> subst h
  · have hne : ¬ t = ⟨t.c ++ [120], t.f, t.r, t.n, t.o, t.l⟩ := by intro e; have := congrArg List.length (congrArg Tr.c e); simp at this
    have hC : ∀ w1, I w1 → RdB w1 ao t.l → Calls Tryz.prog 21 #[.agg #[.string (bs t.c), .bool t.f, .int .i64 t.r, .int .i64 t.n, .string (bs t.o), .slice ao t.l.length ca], .agg #[.string (bs t.c ++ { data := #[120] }), .bool t.f, .int .i64 t.r, .int .i64 t.n, .string (bs t.o), .slice ao t.l.length ca]] w1 fun e w' => e = .returned (.bool false) ∧ Below w1.heap.size w1 w' := fun w1 h r => by
      rw [show bs t.c ++ ({ data := #[120] } : ByteArray) = bs (t.c ++ [120]) from bs_append t.c [120]]; exact HSv.out ⟨t.c ++ [120], t.f, t.r, t.n, t.o, t.l⟩ ao ca hne (show t.l.length * 48 ≤ _ by omega) w1 h r r
    have HC := Lib.hid hC
    have HN := Lib.hid hne
    have aN := alloc_in x4 (.cells #[.string (bs t.c ++ { data := #[120] }), .bool t.f, .int .i64 t.r, .int .i64 t.n, .string (bs t.o), .slice ao t.l.length ca] 27)
    have htN := ht4.below aN
    have hrN := hr4.below aN
    have bN := bX4.trans (aN.mono bX4.size)
    obtain ⟨m0, m1, m2, m3, m4, m5⟩ := htN.cells
    clear hC hne
    go_wp2_with fail
    refine (HC.out _ (HK.out _ bN) hrN).mono ?_
    rintro e w6 ⟨rfl, d6⟩
    go_wp2_with fail
    go_ret
    exact ⟨rfl, bN.trans (d6.mono bN.size)⟩
  · have hne : ¬ t = ⟨t.c, !t.f, t.r, t.n, t.o, t.l⟩ := by intro e; have e1 : t.f = !t.f := congrArg Tr.f e; revert e1; cases t.f <;> decide
    have hC : ∀ w1, I w1 → RdB w1 ao t.l → Calls Tryz.prog 21 #[.agg #[.string (bs t.c), .bool t.f, .int .i64 t.r, .int .i64 t.n, .string (bs t.o), .slice ao t.l.length ca], .agg #[.string (bs t.c), .bool (!t.f), .int .i64 t.r, .int .i64 t.n, .string (bs t.o), .slice ao t.l.length ca]] w1 fun e w' => e = .returned (.bool false) ∧ Below w1.heap.size w1 w' := fun w1 h r => by
      exact HSv.out ⟨t.c, !t.f, t.r, t.n, t.o, t.l⟩ ao ca hne (show t.l.length * 48 ≤ _ by omega) w1 h r r
    have HC := Lib.hid hC
    have HN := Lib.hid hne
    have aN := alloc_in x4 (.cells #[.string (bs t.c), .bool (!t.f), .int .i64 t.r, .int .i64 t.n, .string (bs t.o), .slice ao t.l.length ca] 27)
    have htN := ht4.below aN
    have hrN := hr4.below aN
    have bN := bX4.trans (aN.mono bX4.size)
    obtain ⟨m0, m1, m2, m3, m4, m5⟩ := htN.cells
    clear hC hne
    go_wp2_with fail
    refine (HC.out _ (HK.out _ bN) hrN).mono ?_
    rintro e w6 ⟨rfl, d6⟩
    go_wp2_with fail
    go_ret
    exact ⟨rfl, bN.trans (d6.mono bN.size)⟩
  · have hne : ¬ t = ⟨t.c, t.f, bits .xor .i64 t.r 1, t.n, t.o, t.l⟩ := by intro e; exact xor_ne t.r hr1.1 hr1.2 (congrArg Tr.r e).symm
    have hC : ∀ w1, I w1 → RdB w1 ao t.l → Calls Tryz.prog 21 #[.agg #[.string (bs t.c), .bool t.f, .int .i64 t.r, .int .i64 t.n, .string (bs t.o), .slice ao t.l.length ca], .agg #[.string (bs t.c), .bool t.f, .int .i64 (bits .xor .i64 t.r 1), .int .i64 t.n, .string (bs t.o), .slice ao t.l.length ca]] w1 fun e w' => e = .returned (.bool false) ∧ Below w1.heap.size w1 w' := fun w1 h r => by
      exact HSv.out ⟨t.c, t.f, bits .xor .i64 t.r 1, t.n, t.o, t.l⟩ ao ca hne (show t.l.length * 48 ≤ _ by omega) w1 h r r
    have HC := Lib.hid hC
    have HN := Lib.hid hne
    have aN := alloc_in x4 (.cells #[.string (bs t.c), .bool t.f, .int .i64 (bits .xor .i64 t.r 1), .int .i64 t.n, .string (bs t.o), .slice ao t.l.length ca] 27)
    have htN := ht4.below aN
    have hrN := hr4.below aN
    have bN := bX4.trans (aN.mono bX4.size)
    obtain ⟨m0, m1, m2, m3, m4, m5⟩ := htN.cells
    clear hC hne
    go_wp2_with fail
    refine (HC.out _ (HK.out _ bN) hrN).mono ?_
    rintro e w6 ⟨rfl, d6⟩
    go_wp2_with fail
    go_ret
    exact ⟨rfl, bN.trans (d6.mono bN.size)⟩
  · have hne : ¬ t = ⟨t.c, t.f, t.r, bits .xor .i64 t.n 1, t.o, t.l⟩ := by intro e; exact xor_ne t.n hf.1.1 hf.1.2 (congrArg Tr.n e).symm
    have hC : ∀ w1, I w1 → RdB w1 ao t.l → Calls Tryz.prog 21 #[.agg #[.string (bs t.c), .bool t.f, .int .i64 t.r, .int .i64 t.n, .string (bs t.o), .slice ao t.l.length ca], .agg #[.string (bs t.c), .bool t.f, .int .i64 t.r, .int .i64 (bits .xor .i64 t.n 1), .string (bs t.o), .slice ao t.l.length ca]] w1 fun e w' => e = .returned (.bool false) ∧ Below w1.heap.size w1 w' := fun w1 h r => by
      exact HSv.out ⟨t.c, t.f, t.r, bits .xor .i64 t.n 1, t.o, t.l⟩ ao ca hne (show t.l.length * 48 ≤ _ by omega) w1 h r r
    have HC := Lib.hid hC
    have HN := Lib.hid hne
    have aN := alloc_in x4 (.cells #[.string (bs t.c), .bool t.f, .int .i64 t.r, .int .i64 (bits .xor .i64 t.n 1), .string (bs t.o), .slice ao t.l.length ca] 27)
    have htN := ht4.below aN
    have hrN := hr4.below aN
    have bN := bX4.trans (aN.mono bX4.size)
    obtain ⟨m0, m1, m2, m3, m4, m5⟩ := htN.cells
    clear hC hne
    go_wp2_with fail
    refine (HC.out _ (HK.out _ bN) hrN).mono ?_
    rintro e w6 ⟨rfl, d6⟩
    go_wp2_with fail
    go_ret
    exact ⟨rfl, bN.trans (d6.mono bN.size)⟩
  · have hne : ¬ t = ⟨t.c, t.f, t.r, t.n, t.o ++ [48], t.l⟩ := by intro e; have := congrArg List.length (congrArg Tr.o e); simp at this
    have hC : ∀ w1, I w1 → RdB w1 ao t.l → Calls Tryz.prog 21 #[.agg #[.string (bs t.c), .bool t.f, .int .i64 t.r, .int .i64 t.n, .string (bs t.o), .slice ao t.l.length ca], .agg #[.string (bs t.c), .bool t.f, .int .i64 t.r, .int .i64 t.n, .string (bs t.o ++ { data := #[48] }), .slice ao t.l.length ca]] w1 fun e w' => e = .returned (.bool false) ∧ Below w1.heap.size w1 w' := fun w1 h r => by
      rw [show bs t.o ++ ({ data := #[48] } : ByteArray) = bs (t.o ++ [48]) from bs_append t.o [48]]; exact HSv.out ⟨t.c, t.f, t.r, t.n, t.o ++ [48], t.l⟩ ao ca hne (show t.l.length * 48 ≤ _ by omega) w1 h r r
    have HC := Lib.hid hC
    have HN := Lib.hid hne
    have aN := alloc_in x4 (.cells #[.string (bs t.c), .bool t.f, .int .i64 t.r, .int .i64 t.n, .string (bs t.o ++ { data := #[48] }), .slice ao t.l.length ca] 27)
    have htN := ht4.below aN
    have hrN := hr4.below aN
    have bN := bX4.trans (aN.mono bX4.size)
    obtain ⟨m0, m1, m2, m3, m4, m5⟩ := htN.cells
    clear hC hne
    go_wp2_with fail
    refine (HC.out _ (HK.out _ bN) hrN).mono ?_
    rintro e w6 ⟨rfl, d6⟩
    go_wp2_with fail
    go_ret
    exact ⟨rfl, bN.trans (d6.mono bN.size)⟩
  · have hne : ¬ t = ⟨t.c, t.f, t.r, t.n, t.o, t.l ++ [zeroB]⟩ := by intro e; have := congrArg List.length (congrArg Tr.l e); simp at this
    have hlz : (t.l ++ [zeroB]).length = t.l.length + 1 := by simp
    have hC : ∀ g c w1, I w1 → RdB w1 ao t.l → RdB w1 (some ⟨g, 0, none⟩) (t.l ++ [zeroB]) → Calls Tryz.prog 21 #[.agg #[.string (bs t.c), .bool t.f, .int .i64 t.r, .int .i64 t.n, .string (bs t.o), .slice ao t.l.length ca], .agg #[.string (bs t.c), .bool t.f, .int .i64 t.r, .int .i64 t.n, .string (bs t.o), .slice (some ⟨g, 0, none⟩) (t.l.length + 1) c]] w1 fun e w' => e = .returned (.bool false) ∧ Below w1.heap.size w1 w' := fun g c w1 h r r2 => by
      have := HSv.out ⟨t.c, t.f, t.r, t.n, t.o, t.l ++ [zeroB]⟩ (some ⟨g, 0, none⟩) c hne (show (t.l ++ [zeroB]).length * 48 ≤ _ by rw [hlz]; omega) w1 h r r2
      rw [hlz] at this; exact this
    have HC := Lib.hid hC
    have HSH := Lib.hid hsh
    have HL := Lib.hid hl
    have HV := Lib.hid ht4
    obtain ⟨i0, hi, hz0, hz1, hz2⟩ := bind_parts
    have hsz : (x4.alloc (.cells #[.string (bs t.c), .bool t.f, .int .i64 t.r, .int .i64 t.n, .string (bs t.o), .slice ao t.l.length ca] 27)).heap.size = x4.heap.size + 1 := by simp
    have ho6 := ownB_empty (x4.alloc (.cells #[.string (bs t.c), .bool t.f, .int .i64 t.r, .int .i64 t.n, .string (bs t.o), .slice ao t.l.length ca] 27)) w.heap.size 48 b5.size
    rw [hsz] at ho6
    have a6 := alloc_in (x4.alloc (.cells #[.string (bs t.c), .bool t.f, .int .i64 t.r, .int .i64 t.n, .string (bs t.o), .slice ao t.l.length ca] 27)) (.cells #[] 48)
    have ht6 := ht5.below a6
    have hv6 := hv5.below a6
    have hr6 := hr5.below a6
    have b6 := b5.trans (a6.mono b5.size)
    have hs6 := b6.size
    obtain ⟨m0, m1, m2, m3, m4, m5⟩ := ht6.cells
    clear hC hne hsh hlz hsz a6 hv5 ht5 hr5 b5 y0 y1 y2 y3 y4 y5 z0 z1 z2 z3 z4 z5 hfz aV ht4 hr4 hl
    go_wp2_with (at_builtin; go_loud (refine spreadL (xs := []) rfl rfl _ rfl ho6 hs6 rfl hr6 HSH.out ?e1 ?_))
    case e1 => have := HL.out; show (0 + t.l.length) * 48 ≤ _; omega
    intro v7 w7 ho7 hg7
    have ho7 : OwnB w7 w.heap.size 48 v7 t.l := ho7
    have ht7 : Tq w7 w.heap.size t ao ca := spread_keep ho6 hg7 ht6 (by decide)
    have hv7 : Tq w7 x4.heap.size t ao ca := spread_keep ho6 hg7 hv6 (by decide)
    have b7 := b6.grown hg7 hs6 (fun k hk => (World.ownsRow.lt ho6 k hk).1)
    obtain ⟨a7, c7, hv7e, -⟩ := OwnB.form ho7
    subst hv7e
    have a8 := alloc_in w7 (.cells #[.string { data := #[] }, .int .i64 0, .int .i64 0, .string { data := #[] }] 48)
    have hl8 := (Bq.new w7 zeroB).each
    have ht8 := ht7.below a8
    have hv8 := hv7.below a8
    have b8 := b7.trans (a8.mono b7.size)
    have hs8 := b8.size
    have ho8 : (w7.alloc (.cells #[.string { data := #[] }, .int .i64 0, .int .i64 0, .string { data := #[] }] 48)).ownsRow w.heap.size 48 4 (.slice a7 t.l.length c7) t.l.length (bnds t.l) := World.ownsRow.alloc ho7 _
    clear hg7 ho6 ht6 hv6 hr6 b6 hs6 m0 m1 m2 m3 m4 m5 ho7 ht7 hv7 b7 a8
    go_wp2_with (at_builtin; go_loud (refine wpList_append_own _ rfl _ _ 25 rfl w.heap.size 48 i0 (.agg #[.string .empty, .int .i64 0, .int .i64 0, .string .empty]) 4 48 Tryz.underlying25 hi hz0 hz1 hz2 rfl (by decide) _ _ _ rfl ho8 _ 1 1 (cellsB zeroB) rfl rfl ?d1 ?d2 ?d3 ?d4 ?d5 ?_))
    case d1 => exact hl8
    case d2 => exact one_cell zeroB
    case d3 => have := HL.out; show t.l.length + 1 ≤ maxLen; unfold maxLen; omega
    case d4 => have := HL.out; show (t.l.length + 1) * 48 ≤ _; omega
    case d5 => exact hs8
    intro v9 w9 hown hgrow _
    have ho9 : OwnB w9 w.heap.size 48 v9 (t.l ++ [zeroB]) := OwnB.put (xs := t.l) hown
    have ht9 : Tq w9 w.heap.size t ao ca := spread_keep ho8 hgrow ht8 (by decide)
    have hv9 : Tq w9 x4.heap.size t ao ca := spread_keep ho8 hgrow hv8 (by decide)
    have b9 := b8.grown hgrow hs8 (fun k hk => (World.ownsRow.lt ho8 k hk).1)
    obtain ⟨g9, c9, rfl, hg9, -, -⟩ := own_some ho9 (by simp)
    rw [show (t.l ++ [zeroB]).length = t.l.length + 1 by simp] at ho9 ⊢
    have hwx : w.heap.size < x4.heap.size := lt_of_block HV.out
    have hv10 : (w9.setCell ⟨x4.heap.size, 5, none⟩ (.slice (some ⟨g9, 0, none⟩) (t.l.length + 1) c9)).heap[x4.heap.size]? = some (.cells #[.string (bs t.c), .bool t.f, .int .i64 t.r, .int .i64 t.n, .string (bs t.o), (.slice (some ⟨g9, 0, none⟩) (t.l.length + 1) c9)] 27 (0, 0)) := by
      have := rowSet hv9 5 (.slice (some ⟨g9, 0, none⟩) (t.l.length + 1) c9)
      simpa using this
    have ho10 := own_set ho9 hv9 (by decide) 5 (.slice (some ⟨g9, 0, none⟩) (t.l.length + 1) c9)
    have ht10 : Tq (w9.setCell ⟨x4.heap.size, 5, none⟩ (.slice (some ⟨g9, 0, none⟩) (t.l.length + 1) c9)) w.heap.size t ao ca := (Below.heap_setCell _ _ _ _ (by show w.heap.size ≠ x4.heap.size; omega)).trans ht9
    have b10 := b9.setCell (p := ⟨x4.heap.size, 5, none⟩) (by show w.heap.size ≤ x4.heap.size; omega) (.slice (some ⟨g9, 0, none⟩) (t.l.length + 1) c9)
    obtain ⟨a10, c10, he10, hrd⟩ := OwnB.form ho10
    injection he10 with h1 h2 h3
    rw [← h1] at hrd
    have y5 : w9.cell? ⟨x4.heap.size, 5, none⟩ = some (.slice ao t.l.length ca) := cellRow hv9 5
    have f5 : w9.frozen? ⟨x4.heap.size, 5, none⟩ = false := freeRow hv9 5
    have hq10 : I (w9.setCell ⟨x4.heap.size, 5, none⟩ (.slice (some ⟨g9, 0, none⟩) (t.l.length + 1) c9)) := HK.out _ b10
    have hra := HRD.out _ b10
    have z0 := cellRow hv10 0
    have z1 := cellRow hv10 1
    have z2 := cellRow hv10 2
    have z3 := cellRow hv10 3
    have z4 := cellRow hv10 4
    have z5 := cellRow hv10 5
    obtain ⟨m0, m1, m2, m3, m4, m5⟩ := ht10.cells
    clear h1 h2 h3 hown hgrow ho8 ht8 hv8 b8 hs8 hl8 ho9 ht9 hv9 b9 hwx ho10
    go_wp2_with fail
    refine (HC.out _ _ _ hq10 hra hrd).mono ?_
    rintro e w11 ⟨rfl, d11⟩
    clear z0 z1 z2 z3 z4 z5 m0 m1 m2 m3 m4 m5 y5 f5
    go_wp2_with fail
    go_ret
    exact ⟨rfl, b10.trans (d11.mono b10.size)⟩
end Go.Proofs.YtdgnhcbhbpffmaaGreatDoor
