/- Texts on the program and on the document, joined: TrpW, TrpR, TrpZ. -/
import Derived.Test.YtmdibafofdghgaaGreatDoorMa32
import Derived.Test.YtmdibafofdghgaaGreatDoorMa35
/- The laws of traps, on calls that keep their word: works, small. -/
namespace Go.Proofs.YtmdibafofdghgaaGreatDoor
open Go.ChangeShapes Go.WideShapes Go.ChangeAt Go.RowKit K P1 B5
open D8 (Bd Un lst deU)
open T9 (Tr bU bI msg msgB ofU m3 deM)
set_option linter.unusedVariables false

/-- Traps that are not too long for the program's walk. -/
def LimQ (t : Tr) : Prop := t.c.length ≤ 140737488351232 ∧ t.o.length ≤ 1000000 ∧ t.l.length ≤ 1000000 ∧ t.fits ∧ LimP t.l
theorem LimQ.lim {t : Tr} (h : LimQ t) : LimT t := ⟨h.1, by have := h.2.1; omega, h.2.2.1, h.2.2.2.1, h.2.2.2.2.lim⟩
/-- What the program's calls are known to answer, in any world of which I. -/
structure TrpOk (I : World → Prop) : Prop where
  keep : ∀ a b, I a → Below a.heap.size a b → I b
  tp : ∀ w, I w → Tp w
  check : ∀ (t : Tr) (ao : Option Addr) (cap : Nat) (w : World), LimQ t → ((ao = none ∧ t.l.length = 0 ∧ cap = 0) ∨ ∃ a, ao = some a) → I w → RdB w ao t.l → Calls Tryz.prog 19 #[.agg #[.string (bs t.c), .bool t.f, .int .i64 t.r, .int .i64 t.n, .string (bs t.o), .slice ao t.l.length cap]] w fun e w' => e = .returned (.int .i64 (tcE t : Nat)) ∧ Below w.heap.size w w'
  encode : ∀ (t : Tr) (ao : Option Addr) (cap : Nat) (w : World), LimQ t → ((ao = none ∧ t.l.length = 0 ∧ cap = 0) ∨ ∃ a, ao = some a) → I w → RdB w ao t.l → Calls Tryz.prog 15 #[.agg #[.string (bs t.c), .bool t.f, .int .i64 t.r, .int .i64 t.n, .string (bs t.o), .slice ao t.l.length cap]] w fun e w' => e = .returned (.tuple #[.string (bs (teS t)), .int .i64 (teE t : Nat)]) ∧ Below w.heap.size w w'
  answer : ∀ (t : Tr) (ao : Option Addr) (cap : Nat) (w : World), LimQ t → ((ao = none ∧ t.l.length = 0 ∧ cap = 0) ∨ ∃ a, ao = some a) → I w → RdB w ao t.l → Calls Tryz.prog 17 #[.agg #[.string (bs t.c), .bool t.f, .int .i64 t.r, .int .i64 t.n, .string (bs t.o), .slice ao t.l.length cap]] w fun e w' => e = .returned (.tuple #[.string (bs (taS t)), .int .i64 (taE t : Nat)]) ∧ Below w.heap.size w w'
  decode : ∀ (s : List UInt8) (known : List (List UInt8)) (ko : Option Addr) (kc : Nat) (w : World), s.length ≤ 1000000 → known.length ≤ 1000000 → I w → RdS w ko known → Calls Tryz.prog 10 #[.string (bs s), .slice ko known.length kc] w (DtPost s known w)
  same : ∀ (t u : Tr) (ao bo : Option Addr) (cap cb : Nat) (w : World), t.l.length * 48 ≤ 140737488351280 → u.l.length * 48 ≤ 140737488351280 → I w → RdB w ao t.l → RdB w bo u.l → Calls Tryz.prog 21 #[.agg #[.string (bs t.c), .bool t.f, .int .i64 t.r, .int .i64 t.n, .string (bs t.o), .slice ao t.l.length cap], .agg #[.string (bs u.c), .bool u.f, .int .i64 u.r, .int .i64 u.n, .string (bs u.o), .slice bo u.l.length cb]] w fun e w' => e = .returned (.bool (sameT t u)) ∧ Below w.heap.size w w'
theorem te_ok {t : Tr} (h : teE t = 0) : t.ok = true ∧ teS t = msg t.c t.un ∧ (msg t.c t.un).length ≤ 65535 := by
  unfold teE at h
  cases hk : t.ok
  · rw [hk] at h; cases h
  · rw [hk] at h
    have h' : mgE t.c t.un = 0 := h
    unfold mgE at h'
    by_cases hl : (msg t.c t.un).length ≤ 65535
    · refine ⟨rfl, ?_, hl⟩
      unfold teS mgS
      rw [hk, if_pos hl]; rfl
    · rw [if_neg hl] at h'; cases h'
theorem te_back {t : Tr} (h : teE t = 0) (hf : t.fits) (known : List (List UInt8)) : dtT (teS t) known = (if knows known t.c then t else not9) ∧ dtE (teS t) known = if knows known t.c then 0 else 91 := by
  obtain ⟨h1, h2, h3⟩ := te_ok h
  rw [h2]
  exact dt_yes h3 (T9.deM_back h1 hf) known
theorem dtT_len (s : List UInt8) (known : List (List UInt8)) : (dtT s known).l.length ≤ 4096 := by
  unfold dtT
  split
  · split
    · next t h =>
      split
      · have hk := T9.deM_ok h
        have := ((D8.Un.ok_iff _).1 ((T9.Tr.ok_iff t).1 hk).2).2.2.2.2.1
        have e : t.un.l.length = t.l.length + 2 := rfl
        omega
      · show ([] : List Bd).length ≤ _; simp
    · show ([] : List Bd).length ≤ _; simp
  · show ([] : List Bd).length ≤ _; simp
def PUB : List UInt8 := [112, 117, 98, 108, 105, 99]
def tw : Tr := ⟨PUB, false, 0, 300, [49, 46, 51, 46, 54, 46, 49, 46, 54, 46, 51, 46, 49, 46, 49, 46, 53, 46, 49], []⟩
theorem tw_ok : teE tw = 0 := by decide +kernel
theorem tw_fits : tw.fits := ⟨⟨(show (-9223372036854775808 : Int) ≤ 300 by omega), (show (300 : Int) ≤ 9223372036854775807 by omega)⟩, fun x hx => by cases hx⟩
theorem tw_back : dtT (teS tw) [PUB] = tw ∧ dtE (teS tw) [PUB] = 0 := by
  obtain ⟨h1, h2⟩ := te_back tw_ok tw_fits [PUB]
  rw [show knows [PUB] tw.c = true by decide] at h1 h2
  exact ⟨h1, h2⟩
theorem tw_len : (teS tw).length ≤ 1000000 := by
  obtain ⟨_, h2, h3⟩ := te_ok tw_ok
  rw [h2]; omega
theorem tw_lim : LimQ tw := ⟨by decide, by decide, by decide, tw_fits, fun x hx => by cases hx⟩
set_option maxRecDepth 100000 in
set_option maxHeartbeats 1000000 in
theorem TrpOk.works {I : World → Prop} (K : TrpOk I) (w : World) (hw : I w) : Calls Tryz.prog 8 #[] w fun e w' => e = .returned (.bool true) ∧ Below w.heap.size w w' := by
  have hE := fun w1 (h : I w1) => K.encode tw none 0 w1 tw_lim (.inl ⟨rfl, rfl, rfl⟩) h (.inl rfl)
  rw [tw_ok] at hE
  have hD := fun ko kc w1 (h : I w1) (h2 : RdS w1 ko [PUB]) => K.decode (teS tw) [PUB] ko kc w1 tw_len (by decide) h h2
  unfold DtPost at hD
  rw [tw_back.1, tw_back.2] at hD
  have hS1 := fun bo cb w1 (h : I w1) (h2 : RdB w1 bo tw.l) => K.same tw tw none bo 0 cb w1 (by decide) (by decide) h (.inl rfl) h2
  have hS2 := fun bo cb w1 (h : I w1) (h2 : RdB w1 bo tw.l) => K.same tw tw bo none cb 0 w1 (by decide) (by decide) h h2 (.inl rfl)
  rw [sameT_self] at hS1 hS2
  have HE := Lib.hid hE
  have HD := Lib.hid hD
  have HS1 := Lib.hid hS1
  have HS2 := Lib.hid hS2
  have HK := Lib.hid K.keep
  have HI := Lib.hid hw
  clear hE hD hS1 hS2 K hw
  generalize teS tw = S at *
  go_enter Tryz.func8, Tryz.ntmps8
  have ht0 : Tq (w.alloc (.cells #[.string { data := #[112, 117, 98, 108, 105, 99] }, .bool false, .int .i64 0, .int .i64 300, .string { data := #[49, 46, 51, 46, 54, 46, 49, 46, 54, 46, 51, 46, 49, 46, 49, 46, 53, 46, 49] }, .slice none 0 0] 27)) w.heap.size tw none 0 := rowNew w _
  have b0 := alloc_in w (.cells #[.string { data := #[112, 117, 98, 108, 105, 99] }, .bool false, .int .i64 0, .int .i64 300, .string { data := #[49, 46, 51, 46, 54, 46, 49, 46, 54, 46, 51, 46, 49, 46, 49, 46, 53, 46, 49] }, .slice none 0 0] 27)
  go_wp2_with fail
  generalize w.alloc (.cells #[.string { data := #[112, 117, 98, 108, 105, 99] }, .bool false, .int .i64 0, .int .i64 300, .string { data := #[49, 46, 51, 46, 54, 46, 49, 46, 54, 46, 51, 46, 49, 46, 49, 46, 53, 46, 49] }, .slice none 0 0] 27) = w0 at *
  refine (HE.out _ (HK.out _ _ HI.out b0)).mono ?_
  rintro e w1 ⟨rfl, d1⟩
  have a2 := alloc_in w1 (.cells #[.string { data := #[112, 117, 98, 108, 105, 99] }] 9)
  have hk2 : RdS (w1.alloc (.cells #[.string { data := #[112, 117, 98, 108, 105, 99] }] 9)) (some ⟨w1.heap.size, 0, none⟩) [PUB] := rds_one w1 PUB
  have b2 := (b0.trans (d1.mono b0.size)).trans (a2.mono (b0.trans (d1.mono b0.size)).size)
  have ht2 := (ht0.below d1).below a2
  clear b0 d1 a2 ht0
  go_wp2_with fail
  refine (HD.out _ _ _ (HK.out _ _ HI.out b2) hk2).mono ?_
  rintro e w3 ⟨ao, ct, rfl, hr3, d3⟩
  have a4 := alloc_in w3 (.cells #[.string (bs tw.c), .bool tw.f, .int .i64 tw.r, .int .i64 tw.n, .string (bs tw.o), .slice ao tw.l.length ct] 27)
  have hu4 := Tq.new w3 tw ao ct
  have hr4 := hr3.below a4
  have b4 := (b2.trans (d3.mono b2.size)).trans (a4.mono (b2.trans (d3.mono b2.size)).size)
  have ht4 := (ht2.below d3).below a4
  clear b2 d3 a4 ht2 hk2 hr3
  obtain ⟨z0, z1, z2, z3, z4, z5⟩ := ht4.cells
  obtain ⟨y0, y1, y2, y3, y4, y5⟩ := hu4.cells
  go_wp2_with fail
  refine (HS1.out _ _ _ (HK.out _ _ HI.out b4) hr4).mono ?_
  rintro e w5 ⟨rfl, d5⟩
  have b5 := b4.trans (d5.mono b4.size)
  have hr5 := hr4.below d5
  clear z0 z1 z2 z3 z4 z5 y0 y1 y2 y3 y4 y5
  obtain ⟨z0, z1, z2, z3, z4, z5⟩ := (ht4.below d5).cells
  obtain ⟨y0, y1, y2, y3, y4, y5⟩ := (hu4.below d5).cells
  clear b4 d5 hr4 ht4 hu4
  go_wp2_with fail
  refine (HS2.out _ _ _ (HK.out _ _ HI.out b5) hr5).mono ?_
  rintro e w6 ⟨rfl, d6⟩
  go_wp2
  go_ret
  exact ⟨rfl, b5.trans (d6.mono b5.size)⟩
def smY (x : Bd) : Bool := decide (x.s.length ≤ 2000) && decide (x.o.length ≤ 2000)
def sm9 (t : Tr) : Bool := (((decide (t.l.length ≤ 30) || decide (4096 < t.l.length)) && decide (t.l.length ≤ 8192)) && decide (t.o.length ≤ 2000)) && t.l.all smY
theorem smY_take {xs : List Bd} {i : Nat} (hi : i < xs.length) : (xs.take (i + 1)).all smY = ((xs.take i).all smY && smY (xs.getD i nob)) := by
  rw [List.take_succ_eq_append_getElem hi, List.all_append, List.getD_eq_getElem?_getD, List.getElem?_eq_getElem hi]
  simp
theorem smY_not {xs : List Bd} {i : Nat} (hi : i < xs.length) (h : smY (xs.getD i nob) = false) : xs.all smY = false := by
  rw [List.getD_eq_getElem?_getD, List.getElem?_eq_getElem hi] at h
  rw [List.all_eq_false]
  exact ⟨_, List.getElem_mem hi, by simpa using h⟩
theorem sm9_facts {t : Tr} (h : sm9 t = true) : t.l.length ≤ 8192 ∧ t.o.length ≤ 2000 ∧ ∀ x ∈ t.l, x.s.length ≤ 2000 ∧ x.o.length ≤ 2000 := by
  unfold sm9 smY at h
  simp only [Bool.and_eq_true, Bool.or_eq_true, decide_eq_true_eq, List.all_eq_true] at h
  exact ⟨h.1.1.2, h.1.2, h.2⟩
theorem sm9_lim {t : Tr} (h : sm9 t = true) (hc : t.c.length ≤ 140737488351232) (hf : t.fits) (hx : Lim t.l) : LimQ t := by
  obtain ⟨h1, h2, h3⟩ := sm9_facts h
  exact ⟨hc, by omega, by omega, hf, fun x hm => ⟨by have := (h3 x hm).2; omega, by have := (h3 x hm).1; omega, (hx x hm).2.2⟩⟩
def Sm9Rel (t : Tr) (ao : Option Addr) (cap : Nat) (w : World) (g : Nat) (v : Value) (wr : World) : Prop :=
  ∃ i : Nat, i + g = t.l.length ∧ v = .int .i64 (i : Nat) ∧ (t.l.take i).all smY = true ∧ Tq wr w.heap.size t ao cap ∧ Below w.heap.size w wr
set_option maxRecDepth 100000 in
set_option maxHeartbeats 2000000 in
theorem small9_walk (t : Tr) (ao : Option Addr) (cap : Nat) (hl : t.l.length ≤ 140737488351232) (ho : t.o.length ≤ 140737488351232) (hx : Lim t.l) (w : World) (hr : RdB w ao t.l) :
    Calls Tryz.prog 14 #[.agg #[.string (bs t.c), .bool t.f, .int .i64 t.r, .int .i64 t.n, .string (bs t.o), .slice ao t.l.length cap]] w fun e w' => e = .returned (.bool (sm9 t)) ∧ Below w.heap.size w w' := by
  have hba := alloc_in w (.cells #[.string (bs t.c), .bool t.f, .int .i64 t.r, .int .i64 t.n, .string (bs t.o), .slice ao t.l.length cap] 27)
  have htq := Tq.new w t ao cap
  have hways : ((((30 : Int) < ((t.l.length : Nat) : Int) ∧ ((t.l.length : Nat) : Int) ≤ 4096) ∨ (((30 : Int) < ((t.l.length : Nat) : Int) ∧ (4096 : Int) < ((t.l.length : Nat) : Int)) ∧ (8192 : Int) < ((t.l.length : Nat) : Int))) ∨ (((((t.l.length : Nat) : Int) ≤ 30 ∧ ((t.l.length : Nat) : Int) ≤ 8192) ∨ (((30 : Int) < ((t.l.length : Nat) : Int) ∧ (4096 : Int) < ((t.l.length : Nat) : Int)) ∧ ((t.l.length : Nat) : Int) ≤ 8192)) ∧ (2000 : Int) < ((t.o.length : Nat) : Int))) ∨ (((((t.l.length : Nat) : Int) ≤ 30 ∧ ((t.l.length : Nat) : Int) ≤ 8192) ∨ (((30 : Int) < ((t.l.length : Nat) : Int) ∧ (4096 : Int) < ((t.l.length : Nat) : Int)) ∧ ((t.l.length : Nat) : Int) ≤ 8192)) ∧ ((t.o.length : Nat) : Int) ≤ 2000) := by omega
  rcases hways with hbad | ⟨hgood, h2000⟩
  · have e : sm9 t = false := by
      have : (((decide (t.l.length ≤ 30) || decide (4096 < t.l.length)) && decide (t.l.length ≤ 8192)) && decide (t.o.length ≤ 2000)) = false := by
        rw [Bool.and_eq_false_iff, Bool.and_eq_false_iff, Bool.or_eq_false_iff, decide_eq_false_iff_not, decide_eq_false_iff_not, decide_eq_false_iff_not, decide_eq_false_iff_not]
        omega
      unfold sm9; rw [this]; rfl
    rw [e]
    clear e hr hx htq
    rcases hbad with (⟨h1, h2⟩ | ⟨⟨h1, h2⟩, h3⟩) | ⟨⟨h1, h2⟩ | ⟨⟨h1, h2⟩, h3⟩, h4⟩
    all_goals
      go_enter Tryz.func14, Tryz.ntmps14
      go_wp2
      go_ret
      exact ⟨rfl, hba⟩
  · have e : sm9 t = t.l.all smY := by
      have : (((decide (t.l.length ≤ 30) || decide (4096 < t.l.length)) && decide (t.l.length ≤ 8192)) && decide (t.o.length ≤ 2000)) = true := by
        rw [Bool.and_eq_true, Bool.and_eq_true, Bool.or_eq_true, decide_eq_true_eq, decide_eq_true_eq, decide_eq_true_eq, decide_eq_true_eq]
        omega
      unfold sm9; rw [this]; rfl
    rw [e]
    clear e
    have HST := Lib.hid (show Sm9Rel t ao cap w t.l.length (.int .i64 (0 : Nat)) _ from ⟨0, by omega, rfl, rfl, htq, hba⟩)
    rcases hgood with ⟨h1, h2⟩ | ⟨⟨h1, h2⟩, h3⟩
    all_goals
      go_enter Tryz.func14, Tryz.ntmps14
      go_wp2_with fail
      go_loopg [3] t.l.length (fun g v wr => Sm9Rel t ao cap w g v wr)
      case atStart => exact HST.out
      case round =>
        clear HST
        obtain ⟨i, hi, rfl, hall, hq, hb⟩ := hrel
        obtain ⟨z0, z1, z2, z3, z4, z5⟩ := hq.cells
        cases gk with
        | zero =>
          obtain rfl : i = t.l.length := by omega
          rw [List.take_length] at hall
          have HALL := Lib.hid hall
          clear hall
          go_wp2
          go_ret
          exact ⟨by rw [HALL.out]; rfl, hb⟩
        | succ g =>
          have hlt : i < t.l.length := by omega
          have HTK := Lib.hid (smY_take hlt)
          have HNO := Lib.hid (fun h => smY_not (xs := t.l) hlt h)
          obtain ⟨x, hxe⟩ : ∃ x, t.l.getD i nob = x := ⟨_, rfl⟩
          obtain ⟨b, off, rfl, hbl, c0, c1, c2, c3⟩ := (hr.below hb).at hlt hxe
          rw [hxe] at HTK HNO
          rw [hall] at HTK
          clear hxe hall
          by_cases s1 : x.s.length ≤ 2000
          · have s1' : ((x.s.length : Nat) : Int) ≤ 2000 := by omega
            by_cases s2 : x.o.length ≤ 2000
            · have s2' : ((x.o.length : Nat) : Int) ≤ 2000 := by omega
              have HS := Lib.hid (show smY x = true by unfold smY; rw [decide_eq_true s1, decide_eq_true s2]; rfl)
              clear s1 s2
              go_wp2
              go_roundg g
              case measure => omega
              case rel => exact ⟨i + 1, by omega, by simp, by rw [HTK.out, HS.out]; rfl, hq, hb⟩
            · have s2' : (2000 : Int) < ((x.o.length : Nat) : Int) := by omega
              have HS := Lib.hid (HNO.out (show smY x = false by unfold smY; rw [decide_eq_false s2, Bool.and_false]))
              clear s1 s2
              go_wp2
              go_ret
              exact ⟨by rw [HS.out]; rfl, hb⟩
          · have s1' : (2000 : Int) < ((x.s.length : Nat) : Int) := by omega
            have HS := Lib.hid (HNO.out (show smY x = false by unfold smY; rw [decide_eq_false s1, Bool.false_and]))
            clear s1
            go_wp2
            go_ret
            exact ⟨by rw [HS.out]; rfl, hb⟩
end Go.Proofs.YtmdibafofdghgaaGreatDoor
/- TrapReads, walked on calls that keep their word. -/
namespace Go.Proofs.YtmdibafofdghgaaGreatDoor
open Go.ChangeShapes Go.WideShapes Go.ChangeAt Go.RowKit K P1 B5
open D8 (Bd Un lst deU)
open T9 (Tr bU bI msg msgB ofU m3 deM)
set_option linter.unusedVariables false

theorem below_drewN (w : World) (m : Nat) : Below w.heap.size w (w.drewN m) := ⟨rfl, rfl, rfl, Nat.le_refl _, fun _ _ => rfl⟩
set_option maxRecDepth 100000 in
set_option maxHeartbeats 2000000 in
theorem trapReads_walk (I : World → Prop) (K : TrpOk I) (s : List UInt8) (hs : s.length ≤ 140737488351232) (known : List (List UInt8)) (ko : Option Addr) (kc : Nat) (hk : known.length ≤ 140737488351232) (hsh : (ko = none ∧ known.length = 0 ∧ kc = 0) ∨ ∃ a, ko = some a) (w : World) (hw : I w) (hr : RdS w ko known) :
    Calls Tryz.prog 3 #[.string (bs s), .slice ko known.length kc] w fun e w' => e = .returned (.bool true) ∧ Below w.heap.size w w' := by
  have HW := Lib.hid (fun w1 (h : I w1) => K.works w1 h)
  have HK := Lib.hid K.keep
  have HI := Lib.hid hw
  have hways : (((3000 : Int) < ((s.length : Nat) : Int) ∧ ((s.length : Nat) : Int) ≤ 65535) ∨ (((3000 : Int) < ((s.length : Nat) : Int) ∧ (65535 : Int) < ((s.length : Nat) : Int)) ∧ (131072 : Int) < ((s.length : Nat) : Int)) ∨ ((((s.length : Nat) : Int) ≤ 3000 ∧ ((s.length : Nat) : Int) ≤ 131072) ∧ (50 : Int) < ((known.length : Nat) : Int)) ∨ ((((3000 : Int) < ((s.length : Nat) : Int) ∧ (65535 : Int) < ((s.length : Nat) : Int)) ∧ ((s.length : Nat) : Int) ≤ 131072) ∧ (50 : Int) < ((known.length : Nat) : Int))) ∨
      (((((s.length : Nat) : Int) ≤ 3000 ∧ ((s.length : Nat) : Int) ≤ 131072) ∧ ((known.length : Nat) : Int) ≤ 50) ∨ ((((3000 : Int) < ((s.length : Nat) : Int) ∧ (65535 : Int) < ((s.length : Nat) : Int)) ∧ ((s.length : Nat) : Int) ≤ 131072) ∧ ((known.length : Nat) : Int) ≤ 50)) := by omega
  rcases hways with hbad | hgood
  · clear K hw hr hsh
    rcases hbad with ⟨h1, h2⟩ | ⟨⟨h1, h2⟩, h3⟩ | ⟨⟨h1, h2⟩, h3⟩ | ⟨⟨⟨h1, h2⟩, h3⟩, h4⟩
    all_goals
      go_enter Tryz.func3, Tryz.ntmps3
      go_wp2_with fail
      refine (HW.out w HI.out).mono ?_
      rintro e w1 ⟨rfl, b1⟩
      go_wp2
      go_ret
      exact ⟨rfl, b1⟩
  · have hsl : s.length ≤ 1000000 := by omega
    have hkl : known.length ≤ 1000000 := by omega
    have HL := Lib.hid (lend_walk known hkl ko kc hsh w hr)
    have HD := Lib.hid (fun ko2 kc2 w1 (h : I w1) (h2 : RdS w1 ko2 known) => K.decode s known ko2 kc2 w1 hsl hkl h h2)
    have HQ := Lib.hid (fun w1 (h2 : RdS w1 ko known) => qdecode9_walk s hs known ko kc hk w1 h2)
    unfold DtPost at HD HQ
    have hlen := dtT_len s known
    have hself := sameT_self (dtT s known)
    generalize dtT s known = t at *
    generalize dtE s known = E at *
    have HS := Lib.hid (fun ao bo ca cb w1 (h1 : RdB w1 ao t.l) (h2 : RdB w1 bo t.l) => qsame9_walk t t ao bo ca cb (by omega) (by omega) w1 h1 h2)
    rw [hself] at HS
    have HKp := Lib.hid (fun g cap (hc : known.length + 1 ≤ cap) (hm : cap ≤ 9223372036854775807) w1 (h1 : RdS w1 (some ⟨g, 0, none⟩) (known ++ [behindB])) (h2 : RdS w1 ko known) => kept_walk known hkl g cap hc hm ko kc w1 h1 h2)
    have HR := Lib.hid hr
    have hE1 : (((E : Nat) : Int) == ((E : Nat) : Int)) = true := by simp
    clear K hw hr hsh hself hsl hs hk
    rcases hgood with ⟨⟨h1, h2⟩, h3⟩ | ⟨⟨⟨h1, h2⟩, h3⟩, h4⟩
    all_goals
      go_enter Tryz.func3, Tryz.ntmps3
      go_wp2_with fail
      refine HL.out.mono ?_
      rintro e w1 ⟨g, cap, rfl, hc1, hm1, hrs, b1⟩
      have hk1 := HR.out.below b1
      have HC := Lib.hid (And.intro hc1 hm1)
      clear hc1 hm1
      go_wp2_with fail
      refine (HD.out _ _ _ (HK.out _ _ HI.out b1) hrs.pre).mono ?_
      rintro e w2 ⟨ao, ca, rfl, hr2, d2⟩
      have a2 := alloc_in w2 (.cells #[.string (bs t.c), .bool t.f, .int .i64 t.r, .int .i64 t.n, .string (bs t.o), .slice ao t.l.length ca] 27)
      have ht3 := Tq.new w2 t ao ca
      have hr3 := hr2.below a2
      have b3 := (b1.trans (d2.mono b1.size)).trans (a2.mono (b1.trans (d2.mono b1.size)).size)
      have hrs3 := (hrs.below d2).below a2
      have hk3 := (hk1.below d2).below a2
      clear b1 d2 a2 hr2 hrs hk1
      go_wp2_with fail
      refine (HQ.out _ hk3).mono ?_
      rintro e w4 ⟨bo, cb, rfl, hs4, d4⟩
      have a4 := alloc_in w4 (.cells #[.string (bs t.c), .bool t.f, .int .i64 t.r, .int .i64 t.n, .string (bs t.o), .slice bo t.l.length cb] 27)
      have hu5 := Tq.new w4 t bo cb
      have ht5 := (ht3.below d4).below a4
      have hr5 := (hr3.below d4).below a4
      have hs5 := hs4.below a4
      have b5 := (b3.trans (d4.mono b3.size)).trans (a4.mono (b3.trans (d4.mono b3.size)).size)
      have hrs5 := (hrs3.below d4).below a4
      have hk5 := (hk3.below d4).below a4
      obtain ⟨z0, z1, z2, z3, z4, z5⟩ := ht5.cells
      obtain ⟨y0, y1, y2, y3, y4, y5⟩ := hu5.cells
      clear b3 d4 a4 hr3 hs4 hrs3 hk3 ht3
      go_wp2_with fail
      refine (HS.out _ _ _ _ _ hr5 hs5).mono ?_
      rintro e w6 ⟨rfl, d6⟩
      have b6 := b5.trans (d6.mono b5.size)
      have hrs6 := hrs5.below d6
      have hk6 := hk5.below d6
      clear b5 d6 hr5 hs5 hrs5 hk5 ht5 hu5 z0 z1 z2 z3 z4 z5 y0 y1 y2 y3 y4 y5
      go_wp2_with fail
      refine (HKp.out g cap HC.out.1 HC.out.2 _ hrs6 hk6).mono ?_
      rintro e w7 ⟨rfl, m, rfl⟩
      have b7 := b6.trans ((below_drewN w6 m).mono b6.size)
      clear b6 hrs6 hk6
      go_wp2_with fail
      refine (HW.out _ (HK.out _ _ HI.out b7)).mono ?_
      rintro e w8 ⟨rfl, d8⟩
      go_wp2
      go_ret
      exact ⟨rfl, b7.trans (d8.mono b7.size)⟩
end Go.Proofs.YtmdibafofdghgaaGreatDoor
/- The law's unit of a message, walked. -/
namespace Go.Proofs.YtmdibafofdghgaaGreatDoor
open Go.ChangeShapes Go.WideShapes Go.ChangeAt Go.RowKit K P1 B5
open D8 (Bd Un lst deU)
open T9 (Tr bU bI msg msgB ofU m3 deM)
set_option linter.unusedVariables false

/-- A list of binds does not lie in a unit's block. -/
theorem RdB.apart {w : World} {ao : Option Addr} {xs : List Bd} {T : TypeId} {R : Nat} {u : Un} {bo : Option Addr} {cb : Nat} (h : RdB w ao xs) (hq : Uq T w R u bo cb) : xs.length = 0 ∨ ∀ a, ao = some a → R ≠ a.block := by
  rcases h with h0 | ⟨b, off, ha, hb, hc⟩
  · exact .inl h0
  · rcases Nat.eq_zero_or_pos xs.length with h0 | h0
    · exact .inl h0
    · refine .inr fun a ha' hR => ?_
      rw [ha] at ha'
      injection ha' with ha'
      subst ha'
      have hR' : R = b := hR
      subst hR'
      have c0 := (hc 0 h0).1
      rw [cellRow hq] at c0
      have hlt : off + 0 * 4 < 5 := by
        rcases Nat.lt_or_ge (off + 0 * 4) 5 with h | h
        · exact h
        · rw [Array.getElem?_eq_none (by simpa using h)] at c0; cases c0
      have hoff : off = 0 ∨ off = 1 ∨ off = 2 ∨ off = 3 ∨ off = 4 := by omega
      rcases hoff with rfl | rfl | rfl | rfl | rfl <;> simp at c0
theorem RdB.set5 {w : World} {ao : Option Addr} {xs : List Bd} {T : TypeId} {R : Nat} {u : Un} {bo : Option Addr} {cb : Nat} (h : RdB w ao xs) (hq : Uq T w R u bo cb) (v0 v1 v2 v3 v4 : Value) :
    RdB (((((w.setCell ⟨R, 0, none⟩ v0).setCell ⟨R, 1, none⟩ v1).setCell ⟨R, 2, none⟩ v2).setCell ⟨R, 3, none⟩ v3).setCell ⟨R, 4, none⟩ v4) ao xs := by
  rcases h.apart hq with h0 | hne
  · exact .inl h0
  · exact ((((h.far hne 0 v0).far hne 1 v1).far hne 2 v2).far hne 3 v3).far hne 4 v4
theorem unit_block (w : World) : ∃ w2, w.alloc (.cells #[.int .i64 0, .int .i64 0, .int .i64 0, .int .i64 0, .slice none 0 0] 41) = w2 ∧ Uq 41 w2 w.heap.size nou none 0 ∧ Below w.heap.size w w2 :=
  ⟨_, rfl, Uq.new 41 w nou none 0, alloc_in w _⟩
set_option maxRecDepth 100000 in
set_option maxHeartbeats 2000000 in
theorem lawunit_walk (c : List UInt8) (hc : c.length ≤ 64) (u : Un) (hk : u.ok = true) (hf : ∀ x ∈ u.l, x.fits) (hl : (msg c u).length ≤ 65535) (w : World) (T : Tp w) :
    Calls Tryz.prog 23 #[.string (bs (msg c u))] w fun e w' => ∃ ao cap, e = .returned (.tuple #[.agg #[.int .i64 u.t, .int .i64 u.r, .int .i64 u.a, .int .i64 u.i, .slice ao u.l.length cap], .bool true]) ∧ RdB w' ao u.l ∧ Below w.heap.size w w' := by
  obtain ⟨x1, x2, x3, x4, x5⟩ := T9.msg_parts hc hk
  have hbl := (nx_of x1).2.2.2.2
  have hN := next_ok (msg c u) (by omega)
  have hul := (D8.un_parts hk).2.2
  have hN := fun w1 => next_ok (msg c u) (by omega) x1 w1
  rw [x2, x3, x4] at hN
  have hP := fun w1 => parts_list_walk (msgB c u) (by rw [x3] at hbl; omega) w1
  unfold PaPost at hP
  obtain ⟨ht, _⟩ := (D8.Un.ok_iff u).1 hk
  have htt : ((u.t.toNat : Nat) : Int) = u.t := by omega
  have hm := prt_mem _ _ (msgB c u) _ (Nat.le_refl _) x5
  have m3' := (hm (u.t.toNat, u.body) (by simp)).2
  have hD := fun w1 (h : Tp w1) => decode8_walk u.t u.body (by rw [x3] at hbl; simp only [] at m3'; omega) w1 h
  unfold DuPost at hD
  rw [(du_some (D8.unit_back hk hf)).1, (du_some (D8.unit_back hk hf)).2] at hD
  have HN := Lib.hid hN
  have HP := Lib.hid hP
  have HD := Lib.hid hD
  have HX := Lib.hid x5
  have HTT := Lib.hid htt
  obtain ⟨w2, hw2, hq, bw⟩ := unit_block w
  have HW := Lib.hid hw2
  have HT := Lib.hid (T.below bw)
  clear hw2 hN hP hD x1 x2 x3 x4 x5 hbl hul ht htt hm m3' hl hk hf T
  generalize msgB c u = MB at *
  generalize msg c u = M at *
  go_enter Tryz.func23, Tryz.ntmps23
  go_wp2_with fail
  rw [HW.out]
  refine (HN.out _).mono ?_
  rintro e w3 ⟨rfl, d3⟩
  have a3 := alloc_in w3 (.cells #[.int .i64 48, .string (bs MB)] 72)
  have b3 := (bw.trans (d3.mono bw.size)).trans (a3.mono (bw.trans (d3.mono bw.size)).size)
  have hq3 := (hq.below d3).below a3
  have HT3 := Lib.hid ((HT.out.below d3).below a3)
  clear d3 a3 hq bw
  go_wp2_with fail
  refine (HP.out _).mono ?_
  rintro e w4 (⟨c', h', rfl, d4⟩ | ⟨ps, v, h', rfl, ho, d4⟩)
  · have h := HX.out; rw [h'] at h; cases h
  have hh := HX.out
  rw [h'] at hh
  injection hh with hh
  subst hh
  obtain ⟨ao, cap, rfl, hf2⟩ := ho.form
  have b4 := b3.trans (d4.mono b3.size)
  have hq4 := hq3.below d4
  have HT4 := Lib.hid (HT3.out.below d4)
  rcases hf2 with h0 | ⟨g, rfl, _, _, hg⟩
  · simp at h0
  obtain ⟨g4, g5⟩ := hg 2 (by simp)
  simp only [List.getD_cons_zero, List.getD_cons_succ, Nat.reduceMul, Nat.reduceAdd] at g4 g5
  rw [HTT.out] at g4
  clear hg ho h' d4 b3 hq3 HX
  go_wp2_with fail
  refine (HD.out _ HT4.out).mono ?_
  rintro e w5 ⟨bo, cb, rfl, hr5, d5⟩
  have a5 := alloc_in w5 (.cells #[.int .i64 u.t, .int .i64 u.r, .int .i64 u.a, .int .i64 u.i, .slice bo u.l.length cb] 41)
  have hu6 := Uq.new 41 w5 u bo cb
  have b6 := (b4.trans (d5.mono b4.size)).trans (a5.mono (b4.trans (d5.mono b4.size)).size)
  have hq6 := (hq4.below d5).below a5
  have hr6 := hr5.below a5
  obtain ⟨z0, z1, z2, z3, z4⟩ := hu6.cells
  clear hr5 d5 a5 b4 hq4 g4 g5
  obtain ⟨c0, c1, c2, c3, c4⟩ := hq6.cells
  obtain ⟨f0, f1, f2, f3, f4⟩ := hq6.free
  have PX := hq6.set u bo cb
  have bb := below_set5 b6 (b := w.heap.size) (Nat.le_refl _) (.int .i64 u.t) (.int .i64 u.r) (.int .i64 u.a) (.int .i64 u.i) (.slice bo u.l.length cb)
  have HR := Lib.hid (hr6.set5 hq6 (.int .i64 u.t) (.int .i64 u.r) (.int .i64 u.a) (.int .i64 u.i) (.slice bo u.l.length cb))
  clear hq6 hr6 b6
  go_wp2
  refine bodyPost_ret (results_cell_row2 rfl _ _ w.heap.size _ _ _ _ rfl PX Tryz.underlying41 rfl (by kernel_rfl)) rfl ?_
  exact ⟨bo, cb, rfl, HR.out, bb⟩
end Go.Proofs.YtmdibafofdghgaaGreatDoor
