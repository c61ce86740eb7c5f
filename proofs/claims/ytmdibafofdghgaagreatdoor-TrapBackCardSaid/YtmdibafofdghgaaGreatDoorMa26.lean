/- Texts on the program and on the document, joined: BerI, BerJ, PduJ, PduM. -/
import Derived.Test.YtmdibafofdghgaaGreatDoorMa21
import Derived.Test.YtmdibafofdghgaaGreatDoorMa25
import Derived.Test.YtmdibafofdghgaaGreatDoorMa18
import Derived.Test.YtmdibafofdghgaaGreatDoorMa17
import Derived.Test.YtmdibafofdghgaaGreatDoorMa20
import Derived.Test.YtmdibafofdghgaaGreatDoorMa24
/- ber.Deep, walked. -/
namespace Go.Proofs.YtmdibafofdghgaaGreatDoor
open Go.ChangeShapes Go.WideShapes Go.ChangeAt Go.RowKit K P1 B5
set_option linter.unusedVariables false

theorem stk_else {w : World} {B : Nat} {T : TypeId} {g cap : Nat} {ss : List (List UInt8)} (h : StkAt w B T g cap ss) (k i : Nat) (hk : g ≠ k) (u : Value) : StkAt (w.setCell ⟨k, i, none⟩ u) B T g cap ss := by
  obtain ⟨h1, h2, h3, C, hC, h4⟩ := h
  exact ⟨h1, h2, h3, C, (Below.heap_setCell _ _ _ _ hk).trans hC, h4⟩
theorem Prt.setElse {w : World} {b T : Nat} {t : Int} {s : List UInt8} (h : Prt w b T t s) (g i : Nat) (hg : b ≠ g) (u : Value) : Prt (w.setCell ⟨g, i, none⟩ u) b T t s :=
  (Below.heap_setCell _ _ _ _ hg).trans h
theorem Prt.below {w w' : World} {b T : Nat} {t : Int} {s : List UInt8} (h : Prt w b T t s) (k : Below w.heap.size w w') : Prt w' b T t s := (k.block b (lt_of_block h)).trans h
theorem str_infoI : (Tryz.prog.info? 9).map (fun i => (i.zero, i.size, i.bytes)) = some (some (.string .empty), 1, 16) := by kernel_rfl
/-- The open elements st, the innermost first, in v; the variable p in block pb. -/
def DSt (l : List UInt8) (w : World) (pb : Nat) (st : List (List UInt8)) (d : Nat) (v : Value) (wr : World) : Prop :=
  (∃ gb cap, v = .slice (some ⟨gb, 0, none⟩) st.length cap ∧ StkAt wr (pb + 1) 9 gb cap st.reverse) ∧ (∃ t b, Prt wr pb 72 t b) ∧
  run st d = run [pts l] 1 ∧ st.length ≤ d ∧ d ≤ 32 ∧ left st ≤ l.length + 1 ∧ Below w.heap.size w wr
def DoRel (l : List UInt8) (w : World) (pb g : Nat) (v7 v8 : Value) (wr : World) : Prop := ∃ st d, st ≠ [] ∧ left st ≤ g ∧ v8 = .int .i64 (d : Nat) ∧ DSt l w pb st d v7 wr
def DiRel (l : List UInt8) (w : World) (pb G d g : Nat) (v7 : Value) (wr : World) : Prop := ∃ st, st ≠ [] ∧ left st ≤ G ∧ st.length ≤ g ∧ DSt l w pb st d v7 wr
theorem pts_le {l : List UInt8} (h : nxOk l = true) : (pts l).length ≤ l.length := by
  obtain ⟨_, _, _, _, h5⟩ := nx_of h
  unfold pts
  by_cases hm : isMade (nxT l) = true
  · rw [if_pos hm]; omega
  · rw [if_neg hm]; simp
end Go.Proofs.YtmdibafofdghgaaGreatDoor
/- ber's short, Canon, walked. -/
namespace Go.Proofs.YtmdibafofdghgaaGreatDoor
open Go.ChangeShapes Go.WideShapes Go.ChangeAt Go.RowKit K P1 B5
set_option linter.unusedVariables false

theorem bld_fresh (w : World) : Bld w.heap.size w.heap.size [] (w.alloc (.cells #[.pointer none, .slice none 0 0] 126)) :=
  .inl ⟨Nat.le_refl _, _, rowNew w _, World.ownsRow_nil _ _ _ _, by simp [Value.ownBlock]⟩
theorem prs_inv {a : Nat} {s : List UInt8} {g : Fo} (h : prs a s = .ok g) (hs : s ≠ []) :
    nxOk s = true ∧ ((isMade (nxT s) = true ∧ ∃ cs r, prs (a + 1) (nxB s) = .ok cs ∧ prs a (nxR s) = .ok r ∧ g = .node (nxT s) cs r) ∨ (isMade (nxT s) = false ∧ ∃ r, prs a (nxR s) = .ok r ∧ g = .leaf (nxT s) (nxB s) r)) := by
  rw [prs_step hs] at h
  by_cases hx : nxOk s = true
  · rw [if_neg (by rw [hx]; simp)] at h
    refine ⟨hx, ?_⟩
    by_cases ha : 32 < a
    · rw [if_pos ha] at h; cases h
    · rw [if_neg ha] at h
      by_cases hm : isMade (nxT s) = true
      · rw [if_pos hm] at h
        cases h1 : prs (a + 1) (nxB s) with
        | error e => rw [h1] at h; cases h
        | ok cs =>
          rw [h1] at h
          cases h2 : prs a (nxR s) with
          | error e => rw [h2] at h; cases h
          | ok r => rw [h2] at h; cases h; exact .inl ⟨hm, cs, r, rfl, rfl, rfl⟩
      · rw [if_neg hm] at h
        cases h2 : prs a (nxR s) with
        | error e => rw [h2] at h; cases h
        | ok r => rw [h2] at h; cases h; exact .inr ⟨by simpa using hm, r, rfl, rfl⟩
  · rw [Bool.not_eq_true] at hx
    rw [if_pos hx] at h; cases h
theorem bld_lt {w : World} {B b : Nat} {l : List UInt8} (h : Bld B b l w) : b < w.heap.size := by
  unfold Bld at h
  rcases h with h | h
  · exact h.lt
  · exact h.lt
def SoRel (l : List UInt8) (a : Nat) (f : Fo) (w : World) (b g : Nat) (v0 : Value) (wr : World) : Prop :=
  ∃ out s k, v0 = .string (bs s) ∧ s.length ≤ g ∧ s.length ≤ l.length ∧ prs a s = .ok k ∧ out ++ k.enc = f.enc ∧ Bld b b out wr ∧ Below b w wr
end Go.Proofs.YtmdibafofdghgaaGreatDoor
/- pdu's wrap, element, list, walked. -/
namespace Go.Proofs.YtmdibafofdghgaaGreatDoor
open Go.ChangeShapes Go.WideShapes Go.ChangeAt Go.RowKit K P1 B5
open D8 (Bd Un lst)
set_option linter.unusedVariables false

theorem wrap8_walk (t : Nat) (h2 : isTag t = true) (ht : t < 256) (b : List UInt8) (hb : b.length ≤ 16777216) (w : World) :
    Calls Tryz.prog 77 #[.int .i64 (t : Nat), .string (bs b)] w fun e w' => e = .returned (.string (bs (put t b))) ∧ Below w.heap.size w w' := by
  have hW := fun w1 => wrap_walk (t : Nat) b (by omega) w1
  rw [(wr_yes t b ht h2 hb).1, (wr_yes t b ht h2 hb).2] at hW
  have HW := Lib.hid hW
  clear hW h2 ht
  generalize put t b = R at *
  generalize ((t : Nat) : Int) = t' at *
  go_enter Tryz.func77, Tryz.ntmps77
  go_wp2_with fail
  refine (HW.out _).mono ?_
  rintro e w1 ⟨rfl, b1⟩
  go_wp2
  go_ret
  exact ⟨rfl, b1⟩
theorem ck_len8 {k n : Int} {s : List UInt8} (h : V7.ckV k n s = true) : s.length ≤ 65535 := by
  cases V7.ways h with
  | int hk hs => rw [hs]; simp
  | text hk hn hs => exact hs
  | null hk hn hs => rw [hs]; simp
  | oid hk hn l hl hs =>
    have q1 := O6.put_len l (O6.isArcs_le hl)
    have q2 := (O6.isArcs_len hl).2
    rw [← hs]; omega
  | addr hk hn hs => omega
  | count hk hs => rw [hs]; simp
  | big hk hs => rw [hs]; simp
set_option maxRecDepth 100000 in
set_option maxHeartbeats 1000000 in
theorem element_walk (x : Bd) (h : x.ok = true) (hf : x.fits) (w : World) (T : Tabs w) :
    Calls Tryz.prog 99 #[.agg #[.string (bs x.o), .int .i64 x.k, .int .i64 x.n, .string (bs x.s)]] w fun e w' => e = .returned (.string (bs (put 48 x.body))) ∧ Below w.heap.size w w' := by
  obtain ⟨p1, p2, p3, p4, p5, p6, p7⟩ := bd_puts h
  have hol : x.o.length ≤ 1000000 := by
    have h' := h
    unfold Bd.ok at h'
    rw [Bool.and_eq_true] at h'
    obtain ⟨l, hl⟩ := Option.isSome_iff_exists.1 h'.1
    obtain ⟨a1, a2⟩ := (O6.arcs_iff _ _).1 hl
    have q1 := O6.put_len l (O6.isArcs_le a1)
    have q2 := (O6.isArcs_len a1).2
    rw [← a2]; omega
  have hsl : x.s.length ≤ 1000000 := by have := ck_len8 p3; omega
  have hE := fun w1 (T1 : Tabs w1) => encode_walk x.o hol w1 T1
  rw [p1, p2] at hE
  have hV := fun w1 (T1 : Tabs w1) => encode_walk7 x.k x.n x.s hsl hf.1 hf.2 w1 T1
  have hW6 : ∀ w1, Calls Tryz.prog 77 #[.int .i64 6, .string (bs (V7.ob x.o))] w1 fun e w' => e = .returned (.string (bs (put 6 (V7.ob x.o)))) ∧ Below w1.heap.size w1 w' := fun w1 => wrap8_walk 6 (by decide) (by omega) (V7.ob x.o) (by omega) w1
  have hW48 : ∀ w1, Calls Tryz.prog 77 #[.int .i64 48, .string (bs x.body)] w1 fun e w' => e = .returned (.string (bs (put 48 x.body))) ∧ Below w1.heap.size w1 w' := fun w1 => wrap8_walk 48 (by decide) (by omega) x.body (by omega) w1
  have hln : (put 6 (V7.ob x.o) ++ V7.enT x.k x.n x.s).length ≤ 66300 := by rw [← p4]; exact p6
  rw [p4] at hW48 ⊢
  rw [List.length_append] at hln
  have hq := Bq.new w x
  have hba := alloc_in w (.cells #[.string (bs x.o), .int .i64 x.k, .int .i64 x.n, .string (bs x.s)] 48)
  have HT := Lib.hid (T.below hba)
  have HE := Lib.hid hE
  have HV := Lib.hid hV
  have HW6 := Lib.hid hW6
  have HW48 := Lib.hid hW48
  clear hE hV hW6 hW48 p1 p2 p3 p4 p5 p6 p7 hol hsl T h hf
  generalize put 6 (V7.ob x.o) = B6 at *
  generalize V7.enT x.k x.n x.s = BV at *
  generalize V7.ob x.o = OB at *
  generalize V7.ckE x.k x.n x.s = CE at *
  generalize put 48 (B6 ++ BV) = B48 at *
  have hcat : (9223372036854775807 < B6.length + BV.length) = False := eq_false (by omega)
  go_enter Tryz.func99, Tryz.ntmps99
  go_wp2_with fail
  refine (HE.out _ HT.out).mono ?_
  rintro e w1 ⟨rfl, b1⟩
  obtain ⟨z0, z1, z2, z3⟩ := (hq.below b1).cells
  have HT1 := Lib.hid (HT.out.below b1)
  go_wp2_with fail
  refine (HV.out _ HT1.out).mono ?_
  rintro e w2 ⟨rfl, d2⟩
  have b2 := b1.trans (d2.mono b1.size)
  go_wp2_with fail
  refine (HW6.out _).mono ?_
  rintro e w3 ⟨rfl, d3⟩
  have b3 := b2.trans (d3.mono b2.size)
  go_wp2_with fail
  refine (HW48.out _).mono ?_
  rintro e w4 ⟨rfl, d4⟩
  go_wp2
  go_ret
  exact ⟨rfl, Below_in (b3.trans (d4.mono b3.size))⟩
/-- A builder's length. -/
theorem blen (B b : Nat) (l : List UInt8) (w : World) (h : Bld B b l w) :
    Calls Tryz.prog 100 #[.pointer (some ⟨b, 0, none⟩)] w fun e w' => e = .returned (.int .i64 (l.length : Nat)) ∧ w = w' := by
  obtain ⟨v, p, hc, hn⟩ : ∃ v p, w.heap[b]? = some (.cells #[p, v] 126 (0, 0)) ∧ ∃ ao cap, v = .slice ao l.length cap := by
    have hl := cells_len l
    unfold Bld at h
    rcases h with ⟨hB, v, hbk, hown, hne⟩ | ⟨hB, v, hbk, hown, hne⟩
    · refine ⟨v, _, hbk, ?_⟩
      rcases hown.2 with ⟨hv, h0⟩ | ⟨g, cap, cur, hv, _⟩
      · exact ⟨none, 0, by rw [hv]; congr 1; omega⟩
      · exact ⟨_, cap, by rw [hv, hl]⟩
    · refine ⟨v, _, hbk, ?_⟩
      rcases hown.2 with ⟨hv, h0⟩ | ⟨g, cap, cur, hv, _⟩
      · exact ⟨none, 0, by rw [hv]; congr 1; omega⟩
      · exact ⟨_, cap, by rw [hv, hl]⟩
  obtain ⟨ao, cap, rfl⟩ := hn
  have c1 : w.cell? ⟨b, 1, none⟩ = some (.slice ao l.length cap) := cellRow hc 1
  clear h hc
  go_enter Tryz.func100, Tryz.ntmps100
  go_wp2
  go_ret
  exact ⟨rfl, rfl⟩
theorem lst_mono (xs : List Bd) (i : Nat) : (lst (xs.take i)).length ≤ (lst xs).length := by
  conv => rhs; rw [← List.take_append_drop i xs, lst_app, List.length_append]
  omega
def lsS (xs : List Bd) : List UInt8 := if (lst xs).length ≤ 65536 then lst xs else []
def lsB (xs : List Bd) : Bool := decide ((lst xs).length ≤ 65536)
theorem ls_yes {xs : List Bd} (h : (lst xs).length ≤ 65536) : lsS xs = lst xs ∧ lsB xs = true := ⟨if_pos h, decide_eq_true h⟩
theorem ls_no {xs : List Bd} (h : ¬ (lst xs).length ≤ 65536) : lsS xs = [] ∧ lsB xs = false := ⟨if_neg h, decide_eq_false h⟩
def Ls8Rel (xs : List Bd) (w : World) (g : Nat) (v : Value) (wr : World) : Prop :=
  ∃ i : Nat, i + g = xs.length ∧ v = .int .i64 (i : Nat) ∧ Bld w.heap.size w.heap.size (lst (xs.take i)) wr ∧ (lst (xs.take i)).length ≤ 65536 ∧ Below w.heap.size w wr
set_option maxRecDepth 100000 in
set_option maxHeartbeats 2000000 in
theorem list_walk8 (xs : List Bd) (ao : Option Addr) (cap : Nat) (hk : ∀ x ∈ xs, x.ok = true) (hf : Lim xs) (hl : xs.length ≤ 4096) (w : World) (T : Tabs w) (hr : RdB w ao xs) :
    Calls Tryz.prog 75 #[.slice ao xs.length cap] w fun e w' => e = .returned (.tuple #[.string (bs (lsS xs)), .bool (lsB xs)]) ∧ Below w.heap.size w w' := by
  have HT := Lib.hid T
  have HK := Lib.hid hk
  have hbf := bld_fresh w
  have hba : Below w.heap.size w (w.alloc (.cells #[.pointer none, .slice none 0 0] 126)) := (Below.refl _ _).alloc (Nat.le_refl _) _
  have HR0 := Lib.hid (show Ls8Rel xs w xs.length (.int .i64 (0 : Nat)) (w.alloc (.cells #[.pointer none, .slice none 0 0] 126)) from ⟨0, by omega, rfl, hbf, by simp [lst], hba⟩)
  clear T hk hbf hba
  go_enter Tryz.func75, Tryz.ntmps75
  go_wp2_with fail
  go_loopg [9] xs.length (fun g v wr => Ls8Rel xs w g v wr)
  case atStart => exact HR0.out
  case round =>
    clear HR0
    obtain ⟨i, hi, rfl, hB, hlen, hb⟩ := hrel
    cases gk with
    | zero =>
      obtain rfl : i = xs.length := by omega
      rw [List.take_length] at hB hlen
      have HL := Lib.hid hlen
      clear hlen
      go_wp2_with fail
      refine (bstr _ _ _ _ hB hb.size).mono ?_
      rintro e w1 ⟨rfl, b1⟩
      go_wp2
      go_ret2
      exact ⟨by rw [(ls_yes HL.out).1, (ls_yes HL.out).2]; rfl, hb.trans b1⟩
    | succ g =>
      have hlt : i < xs.length := by omega
      have HLT := Lib.hid (lst_take hlt)
      have hof := ok_at HK.out hlt
      have hxf := (hf.at hlt).2.2
      have HMO := Lib.hid (lst_mono xs (i + 1))
      obtain ⟨x, hxe⟩ : ∃ x, xs.getD i nob = x := ⟨_, rfl⟩
      obtain ⟨b, off, rfl, hbl, c0, c1, c2, c3⟩ := (hr.below (hb.mono (Nat.le_refl _))).at hlt hxe
      rw [hxe] at HLT hof hxf
      have hbz := (bd_puts hof).2.2.2.2.2.1
      have hpl : (put 48 x.body).length ≤ 66310 := by have := D8.short_le8 x.body.length; rw [put_len]; omega
      have HE := Lib.hid (fun w1 (T1 : Tabs w1) => element_walk x hof hxf w1 T1)
      have ba := alloc_in wr (.cells #[.string (bs x.o), .int .i64 x.k, .int .i64 x.n, .string (bs x.s)] 48)
      have hbz2 := hb.size
      have hB0 := bld_below hB ba
      have hb0 := hb.trans (ba.mono hb.size)
      have HT0 := Lib.hid (HT.out.below hb0)
      clear hof hxf hxe hbz ba hB
      generalize lst (xs.take i) = L0 at *
      generalize put 48 x.body = BX at *
      go_wp2_with fail
      generalize wr.alloc (.cells #[.string (bs x.o), .int .i64 x.k, .int .i64 x.n, .string (bs x.s)] 48) = w0 at *
      refine (HE.out _ HT0.out).mono ?_
      rintro e w1 ⟨rfl, d1⟩
      have hB1 := bld_below hB0 d1
      have hb1 := hb0.trans (d1.mono hb0.size)
      clear d1 hB0 hb0 HE HT0
      go_wp2_with fail
      refine (wstr _ _ _ BX _ hB1 (by omega) hb1.size).mono ?_
      rintro e w2 ⟨rfl, hB2, d2, _⟩
      have hb2 := hb1.trans d2
      clear d2 hB1 hb1
      go_wp2_with fail
      refine (blen _ _ _ _ hB2).mono ?_
      rintro e w3 ⟨rfl, rfl⟩
      by_cases hgt : (L0 ++ BX).length ≤ 65536
      · have hgt' : ((L0.length : Nat) : Int) + ((BX.length : Nat) : Int) ≤ 65536 := by rw [List.length_append] at hgt; omega
        go_wp2
        go_roundg g
        case measure => omega
        case rel => exact ⟨i + 1, by omega, by simp, by rw [HLT.out]; exact hB2, by rw [HLT.out]; exact hgt, hb2⟩
      · have hgt' : (65536 : Int) < ((L0.length : Nat) : Int) + ((BX.length : Nat) : Int) := by rw [List.length_append] at hgt; omega
        have HNO := Lib.hid (show ¬ (lst xs).length ≤ 65536 by have h1 := HMO.out; rw [HLT.out] at h1; omega)
        clear hgt
        go_wp2
        go_ret2
        exact ⟨by rw [(ls_no HNO.out).1, (ls_no HNO.out).2]; rfl, hb2⟩
end Go.Proofs.YtmdibafofdghgaaGreatDoor
/- The document's Decode of units, where the parts are as they should be. -/
namespace Go.Proofs.YtmdibafofdghgaaGreatDoor
open Go.ChangeShapes Go.WideShapes Go.ChangeAt Go.RowKit K P1 B5
open D8 (Bd Un lst deB deL deU)
set_option linter.unusedVariables false

theorem deL_one {p : Nat × List UInt8} {x : Bd} : ∀ (a : List (Nat × List UInt8)) (xs : List Bd), deL a = some xs → deB p = some x → deL (a ++ [p]) = some (xs ++ [x])
  | [], xs, h, hx => by
    have h' : some [] = some xs := h
    obtain rfl := Option.some.inj h'
    show (match deB p with | none => none | some x => match deL [] with | none => none | some l => some (x :: l)) = _
    rw [hx]; rfl
  | q :: a, xs, h, hx => by
    have h' : (match deB q with | none => none | some x => match deL a with | none => none | some l => some (x :: l)) = some xs := h
    show (match deB q with | none => none | some x => match deL (a ++ [p]) with | none => none | some l => some (x :: l)) = _
    cases h1 : deB q with
    | none => rw [h1] at h'; cases h'
    | some y =>
      rw [h1] at h'
      cases h2 : deL a with
      | none => rw [h2] at h'; cases h'
      | some l =>
        rw [h2] at h'
        obtain rfl := Option.some.inj h'
        rw [deL_one a l h2 hx]; rfl
theorem deL_not {ps : List (Nat × List UInt8)} {p : Nat × List UInt8} (hp : p ∈ ps) (h : deB p = none) : deL ps = none := by
  cases hd : deL ps with
  | none => rfl
  | some l =>
    obtain ⟨x, hx⟩ := D8.deL_mem ps l hd p hp
    rw [h] at hx; cases hx
theorem deL_len : ∀ (ps : List (Nat × List UInt8)) (l : List Bd), deL ps = some l → l.length = ps.length
  | [], l, h => by
    have h' : some [] = some l := h
    obtain rfl := Option.some.inj h'; rfl
  | q :: a, xs, h => by
    have h' : (match deB q with | none => none | some x => match deL a with | none => none | some l => some (x :: l)) = some xs := h
    cases h1 : deB q with
    | none => rw [h1] at h'; cases h'
    | some y =>
      rw [h1] at h'
      cases h2 : deL a with
      | none => rw [h2] at h'; cases h'
      | some l =>
        rw [h2] at h'
        obtain rfl := Option.some.inj h'
        simp [deL_len a l h2]
theorem wrap64_in (n : Int) : -9223372036854775808 ≤ wrap64 n ∧ wrap64 n ≤ 9223372036854775807 := by
  rw [wrap64_eq]; omega
theorem deB_lim {p : Nat × List UInt8} {x : Bd} (h : deB p = some x) : x.o.length ≤ 1000000 ∧ x.s.length ≤ 1000000 ∧ x.fits := by
  obtain ⟨_, hok, _⟩ := D8.bind_told h
  have h' := hok
  unfold Bd.ok at h'
  rw [Bool.and_eq_true] at h'
  refine ⟨?_, by have := ck_len8 h'.2; omega, ?_⟩
  · obtain ⟨l, hl⟩ := Option.isSome_iff_exists.1 h'.1
    obtain ⟨a1, a2⟩ := (O6.arcs_iff _ _).1 hl
    have q1 := O6.put_len l (O6.isArcs_le a1)
    have q2 := (O6.isArcs_len a1).2
    rw [← a2]; omega
  · have hb : ∀ (k : Int) (b : List UInt8), (V7.rdV k b).2.2 = true → -9223372036854775808 ≤ (V7.rdV k b).1 ∧ (V7.rdV k b).1 ≤ 9223372036854775807 := by
      intro k b hb
      unfold V7.rdV at hb ⊢
      by_cases h2 : k = 2
      · rw [if_pos h2] at hb ⊢
        exact V7.nv_bounds hb
      · rw [if_neg h2] at hb ⊢
        by_cases h65 : k = 65 ∨ k = 66 ∨ k = 67 ∨ k = 70
        · rw [if_pos h65]; exact wrap64_in _
        · rw [if_neg h65]
          by_cases h6 : k = 6
          · rw [if_pos h6]; exact ⟨by omega, by omega⟩
          · rw [if_neg h6]; exact ⟨by omega, by omega⟩
    unfold D8.deB at h
    split at h
    · split at h
      · rename_i hc
        obtain rfl := Option.some.inj h
        have := hc.2.2.2
        unfold V7.deOk at this
        rw [Bool.and_eq_true] at this
        exact hb _ _ this.1
      · cases h
    · cases h
theorem prts_count : ∀ (k c : Nat) (l : List UInt8) (ps : List (Nat × List UInt8)), prts k c l = .ok ps → ps.length ≤ k
  | 0, c, l, ps, h => by
    unfold prts at h
    by_cases hl : l.isEmpty = true
    · rw [if_pos hl] at h; injection h with h; subst h; simp
    · rw [if_neg hl] at h; cases h
  | k + 1, c, l, ps, h => by
    unfold prts at h
    by_cases hl : l.isEmpty = true
    · rw [if_pos hl] at h; injection h with h; subst h; simp
    rw [if_neg hl] at h
    by_cases hx : nxOk l = false
    · rw [if_pos hx] at h; cases h
    rw [if_neg hx] at h
    by_cases hc : c = 4096
    · rw [if_pos hc] at h; cases h
    rw [if_neg hc] at h
    cases hr : prts k (c + 1) (nxR l) with
    | error e2 => rw [hr] at h; cases h
    | ok r =>
      rw [hr] at h
      injection h with h
      subst h
      have := prts_count k (c + 1) (nxR l) r hr
      rw [List.length_cons]; omega
theorem prt_count {c : Nat} {l : List UInt8} {ps : List (Nat × List UInt8)} (h : prt c l = .ok ps) : ps.length ≤ l.length := prts_count _ _ _ _ h
theorem prts_most : ∀ (k c : Nat) (l : List UInt8) (ps : List (Nat × List UInt8)), c ≤ 4096 → prts k c l = .ok ps → ps.length + c ≤ 4096
  | 0, c, l, ps, h4, h => by
    unfold prts at h
    by_cases hl : l.isEmpty = true
    · rw [if_pos hl] at h; injection h with h; subst h; simpa using h4
    · rw [if_neg hl] at h; cases h
  | k + 1, c, l, ps, h4, h => by
    unfold prts at h
    by_cases hl : l.isEmpty = true
    · rw [if_pos hl] at h; injection h with h; subst h; simpa using h4
    rw [if_neg hl] at h
    by_cases hx : nxOk l = false
    · rw [if_pos hx] at h; cases h
    rw [if_neg hx] at h
    by_cases hc : c = 4096
    · rw [if_pos hc] at h; cases h
    rw [if_neg hc] at h
    cases hr : prts k (c + 1) (nxR l) with
    | error e2 => rw [hr] at h; cases h
    | ok r =>
      rw [hr] at h
      injection h with h
      subst h
      have := prts_most k (c + 1) (nxR l) r (by omega) hr
      rw [List.length_cons]; omega
theorem prt_most {l : List UInt8} {ps : List (Nat × List UInt8)} (h : prt 0 l = .ok ps) : ps.length ≤ 4096 := by
  have := prts_most _ _ _ _ (by omega) h; omega
theorem deL_lim (ps : List (Nat × List UInt8)) (l : List Bd) (h : deL ps = some l) : LimP l := by
  induction ps generalizing l with
  | nil =>
    have h' : some [] = some l := h
    obtain rfl := Option.some.inj h'
    intro x hx; cases hx
  | cons q a ih =>
    have h' : (match deB q with | none => none | some x => match deL a with | none => none | some l => some (x :: l)) = some l := h
    cases h1 : deB q with
    | none => rw [h1] at h'; cases h'
    | some y =>
      rw [h1] at h'
      cases h2 : deL a with
      | none => rw [h2] at h'; cases h'
      | some m =>
        rw [h2] at h'
        obtain rfl := Option.some.inj h'
        intro x hx
        rcases List.mem_cons.1 hx with rfl | hx
        · exact deB_lim h1
        · exact ih m h2 x hx
theorem deU_go {t : Int} {b : List UInt8} {p1 p2 p3 p4 : Nat × List UInt8} {qs : List (Nat × List UInt8)} {xs : List Bd} (h : prt 0 b = .ok [p1, p2, p3, p4]) (h1 : p1.1 = 2) (h2 : p2.1 = 2) (h3 : p3.1 = 2) (h4 : p4.1 = 48) (n1 : nOk p1.2 = true) (n2 : nOk p2.2 = true) (n3 : nOk p3.2 = true) (hq : prt 0 p4.2 = .ok qs) (hx : deL qs = some xs) :
    deU t b = if Un.ok ⟨t, nv p1.2, nv p2.2, nv p3.2, xs⟩ then some ⟨t, nv p1.2, nv p2.2, nv p3.2, xs⟩ else none := by
  unfold D8.deU
  simp only [h, h1, h2, h3, h4, n1, n2, n3, hq, hx, and_self, if_true]
theorem deU_noL {t : Int} {b : List UInt8} {p1 p2 p3 p4 : Nat × List UInt8} (h : prt 0 b = .ok [p1, p2, p3, p4]) (hn : ∀ qs xs, prt 0 p4.2 = .ok qs → deL qs = some xs → False) : deU t b = none := by
  cases hd : deU t b with
  | none => rfl
  | some u =>
    obtain ⟨q1, q2, q3, q4, qs, hq, _, hq4, hl, _⟩ := D8.deU_inv hd
    rw [h] at hq
    injection hq with hq
    simp only [List.cons.injEq, and_true] at hq
    obtain ⟨rfl, rfl, rfl, rfl⟩ := hq
    exact (hn qs _ hq4 hl).elim
theorem block_ne {w : World} {B : Nat} {T : TypeId} {n : Nat} {v : Value} {m : Nat} {xs : List Value} (hown : w.ownsRow B T n v m xs) {k : Nat} {cs : Array Value} {T' : TypeId} {fr : Nat × Nat} (hk : w.heap[k]? = some (.cells cs T' fr)) (hT : T' ≠ T) : some k ≠ v.ownBlock := by
  intro e
  rcases hown.2 with ⟨rfl, _⟩ | ⟨g, cap, cur, rfl, _, hg, _⟩
  · simp [Value.ownBlock] at e
  · simp [Value.ownBlock] at e
    subst e
    rw [hk] at hg
    injection hg with hg
    injection hg with _ hg
    exact hT hg
theorem own_set5 {w : World} {B : Nat} {e : TypeId} {n : Nat} {v : Value} {m : Nat} {xs : List Value} (h : w.ownsRow B e n v m xs) {k : Nat} {cs : Array Value} {T : TypeId} (hk : w.heap[k]? = some (.cells cs T (0, 0))) (hT : T ≠ e) (v0 v1 v2 v3 v4 : Value) :
    (((((w.setCell ⟨k, 0, none⟩ v0).setCell ⟨k, 1, none⟩ v1).setCell ⟨k, 2, none⟩ v2).setCell ⟨k, 3, none⟩ v3).setCell ⟨k, 4, none⟩ v4).ownsRow B e n v m xs :=
  own_set (own_set (own_set (own_set (own_set h hk hT 0 v0) (rowSet hk 0 v0) hT 1 v1) (rowSet (rowSet hk 0 v0) 1 v1) hT 2 v2) (rowSet (rowSet (rowSet hk 0 v0) 1 v1) 2 v2) hT 3 v3) (rowSet (rowSet (rowSet (rowSet hk 0 v0) 1 v1) 2 v2) 3 v3) hT 4 v4
theorem grown_keep {w w' : World} {B : Nat} {T : TypeId} {n : Nat} {v : Value} {m : Nat} {xs : List Value} (hown : w.ownsRow B T n v m xs) (hg : w.grownBy w' v.ownBlock) {k : Nat} {cs : Array Value} {T' : TypeId} {fr : Nat × Nat} (hk : w.heap[k]? = some (.cells cs T' fr)) (hT : T' ≠ T) : w'.heap[k]? = some (.cells cs T' fr) :=
  (hg.block k (lt_of_block hk) (block_ne hown hk hT)).trans hk
theorem OwnP.grown {w w' : World} {B B' : Nat} {T P : TypeId} {n : Nat} {v vp : Value} {m : Nat} {xs : List Value} {ps : List (Nat × List UInt8)} (hp : OwnP w B' P vp ps) (hown : w.ownsRow B T n v m xs) (hg : w.grownBy w' v.ownBlock) (hT : P ≠ T) : OwnP w' B' P vp ps := by
  refine ⟨hp.1, ?_⟩
  rcases hp.2 with hn | ⟨g, cap, cur, h1, h2, h3, h4⟩
  · exact .inl hn
  · exact .inr ⟨g, cap, cur, h1, h2, grown_keep hown hg h3 hT, h4⟩
theorem Uq.keep {T : TypeId} {w : World} {b : Nat} {u : Un} {ao : Option Addr} {cap : Nat} (h : Uq T w b u ao cap) {U : Nat} (hne : b ≠ U) (i : Nat) (v : Value) : Uq T (w.setCell ⟨U, i, none⟩ v) b u ao cap := (Below.heap_setCell _ _ _ _ hne).trans h
theorem OwnP.set {w : World} {B : Nat} {P : TypeId} {v : Value} {ps : List (Nat × List UInt8)} (h : OwnP w B P v ps) {k : Nat} {cs : Array Value} {T : TypeId} {fr : Nat × Nat} (hk : w.heap[k]? = some (.cells cs T fr)) (hT : T ≠ P) (i : Nat) (u : Value) : OwnP (w.setCell ⟨k, i, none⟩ u) B P v ps := own_set h hk hT i u
/-- The loop's hold: what has been read so far. -/
def DcRel (qs : List (Nat × List UInt8)) (vk : Value) (t r a i : Int) (R U : Nat) (w : World) (g : Nat) (v : Value) (wr : World) : Prop :=
  ∃ j : Nat, j + g = qs.length ∧ v = .int .i64 (j : Nat) ∧ ∃ xs vb, deL (qs.take j) = some xs ∧ wr.heap[U]? = some (.cells #[.int .i64 t, .int .i64 r, .int .i64 a, .int .i64 i, vb] 60 (0, 0)) ∧ OwnB wr w.heap.size 48 vb xs ∧ Uq 60 wr R nou none 0 ∧ OwnP wr w.heap.size 57 vk qs ∧ Below w.heap.size w wr
set_option maxRecDepth 100000 in
set_option maxHeartbeats 4000000 in
theorem qdecode8_go (t : Int) (b : List UInt8) (hp : b.length ≤ 140737488351232) (w : World) (p1 p2 p3 p4 : Nat × List UInt8) (h : prt 0 b = .ok [p1, p2, p3, p4]) (h1 : p1.1 = 2) (h2 : p2.1 = 2) (h3 : p3.1 = 2) (h4 : p4.1 = 48) :
    Calls Tryz.prog 29 #[.agg #[.int .i64 t, .string (bs b)]] w (DuPc t b w) := by
  have HQ := Lib.hid (fun w1 => qparts_walk b hp w1)
  unfold QaPost at HQ
  have hm := prt_mem _ _ b _ (Nat.le_refl _) h
  have m1 := (hm p1 (by simp)).2
  have m2 := (hm p2 (by simp)).2
  have m3 := (hm p3 (by simp)).2
  have m4 := (hm p4 (by simp)).2
  have HN1 := Lib.hid (fun w1 => qbnumber_walk p1.2 (by omega) w1)
  have HN2 := Lib.hid (fun w1 => qbnumber_walk p2.2 (by omega) w1)
  have HN3 := Lib.hid (fun w1 => qbnumber_walk p3.2 (by omega) w1)
  have HP4 := Lib.hid (fun w1 => qparts_walk p4.2 (by omega) w1)
  unfold QaPost at HP4
  have HNo := Lib.hid (fun (e : deU t b = none) (w' : World) (k : Below w.heap.size w w') => DuPc.no e k)
  have HD1 := Lib.hid (fun hn => deU_tags (t := t) h hn)
  have HD2 := Lib.hid (fun hn => deU_noL (t := t) h hn)
  have HD3 := Lib.hid (fun qs xs n1 n2 n3 hq hx => deU_go (t := t) (qs := qs) (xs := xs) h h1 h2 h3 h4 n1 n2 n3 hq hx)
  obtain ⟨w2, hw2, hq, hpt, bw⟩ := two_blocksU 57 60 w t b
  have HW := Lib.hid hw2
  have HH := Lib.hid h
  obtain ⟨a1, l1⟩ := p1
  obtain ⟨a2, l2⟩ := p2
  obtain ⟨a3, l3⟩ := p3
  obtain ⟨a4, l4⟩ := p4
  simp only [] at *
  subst h1 h2 h3 h4
  clear hw2 h hm
  go_enter Tryz.func29, Tryz.ntmps29
  go_wp2_with fail
  rw [HW.out]
  refine (HQ.out _).mono ?_
  rintro e w1 (⟨c', h', rfl, b1⟩ | ⟨ps', v, h', rfl, ho, b1⟩)
  · have h := HH.out; rw [h'] at h; cases h
  have hh2 := HH.out
  rw [h'] at hh2
  injection hh2 with hh2
  subst hh2
  obtain ⟨ao, cap, rfl, hf⟩ := ho.form
  replace hq := hq.below b1
  replace hpt := hpt.keep b1
  replace bw := bw.trans (b1.mono bw.size)
  clear HQ HW b1 ho h' HH
  rcases hf with h0 | ⟨g, rfl, hg1, hg2, hg⟩
  · simp at h0
  obtain ⟨g0, g1⟩ := hg 0 (by simp)
  obtain ⟨g2, g3⟩ := hg 1 (by simp)
  obtain ⟨g4, g5⟩ := hg 2 (by simp)
  obtain ⟨g6, g7⟩ := hg 3 (by simp)
  simp only [List.getD_cons_zero, List.getD_cons_succ, Nat.zero_mul, Nat.one_mul, Nat.reduceMul, Nat.reduceAdd, Nat.zero_add] at g0 g1 g2 g3 g4 g5 g6 g7
  clear hg
  go_wp2_with fail
  refine (HN1.out _).mono ?_
  rintro e w3 ⟨rfl, rfl⟩
  go_wp2_with fail
  refine (HN2.out _).mono ?_
  rintro e w3 ⟨rfl, rfl⟩
  go_wp2_with fail
  refine (HN3.out _).mono ?_
  rintro e w3 ⟨rfl, rfl⟩
  go_wp2_with fail
  refine (HP4.out _).mono ?_
  rintro e w4 hpost
  have hall : ∃ (qs : List (Nat × List UInt8)) (vk : Value) (e4 : Nat), e = .returned (.tuple #[vk, .int .i64 (e4 : Nat)]) ∧ OwnP w4 w1.heap.size 57 vk qs ∧ Below w1.heap.size w1 w4 ∧ (∀ q ∈ qs, q.2.length ≤ 140737488351232) ∧ qs.length ≤ 4096 ∧ ((e4 = 0 ∧ prt 0 l4 = .ok qs) ∨ ((((e4 : Nat) : Int) != 0) = true ∧ ∃ c, prt 0 l4 = .error c)) := by
    rcases hpost with ⟨c4, hc4, rfl, b4⟩ | ⟨qs, vk, hqs, rfl, hok, b4⟩
    · exact ⟨[], _, c4, rfl, OwnP.nil _ _ _, b4, fun q hq => (by cases hq), (by simp), .inr ⟨by rw [bne_iff_ne]; rcases prt_err hc4 with rfl | rfl <;> decide, c4, hc4⟩⟩
    · exact ⟨qs, vk, 0, rfl, hok, b4, fun q hq => (by have := (prt_mem _ _ l4 _ (Nat.le_refl _) hqs q hq).2; omega), prt_most hqs, .inl ⟨rfl, hqs⟩⟩
  clear hpost
  obtain ⟨qs, vk, e4, rfl, hok, b4, hql, hqn, hE4⟩ := hall
  replace hq := hq.below b4
  replace hpt := hpt.keep b4
  have hszw := bw.size
  replace bw := bw.trans (b4.mono bw.size)
  have hokw := hok.mono (B' := w.heap.size) hszw
  obtain ⟨d0, d1, _, _⟩ := hpt.cells
  have HE4 := Lib.hid hE4
  have HQL := Lib.hid hql
  clear HP4 g0 g1 g2 g3 g4 g5 g6 g7 b4 hok hE4 hql
  obtain ⟨aok, capk, rfl, hfk⟩ := hokw.form
  clear hfk
  obtain ⟨V1, hV1⟩ : ∃ x, nuV l1 = x := ⟨_, rfl⟩
  obtain ⟨V2, hV2⟩ : ∃ x, nuV l2 = x := ⟨_, rfl⟩
  obtain ⟨V3, hV3⟩ : ∃ x, nuV l3 = x := ⟨_, rfl⟩
  have HV := Lib.hid (And.intro hV1 (And.intro hV2 hV3))
  rw [hV1, hV2, hV3]
  clear hV1 hV2 hV3 HN1 HN2 HN3
  have hU := rowNew w4 (.cells #[.int .i64 t, .int .i64 V1, .int .i64 V2, .int .i64 V3, .slice none 0 0] 60)
  have ba := alloc_in w4 (.cells #[.int .i64 t, .int .i64 V1, .int .i64 V2, .int .i64 V3, .slice none 0 0] 60)
  have HST := Lib.hid (show DcRel qs (.slice aok qs.length capk) t V1 V2 V3 (w.heap.size + 1) w4.heap.size w qs.length (.int .i64 (0 : Nat)) (w4.alloc (.cells #[.int .i64 t, .int .i64 V1, .int .i64 V2, .int .i64 V3, .slice none 0 0] 60)) from
    ⟨0, by omega, rfl, [], _, rfl, hU, OwnB.nil _ _ _, hq.below ba, hokw.below ba, bw.trans (ba.mono bw.size)⟩)
  have hbU : w.heap.size ≤ w4.heap.size := bw.size
  have hRU : w.heap.size + 1 ≠ w4.heap.size := Nat.ne_of_lt (lt_of_block hq)
  clear hU ba hq hokw bw
  go_wp2_with fail
  go_loopg [14] qs.length (fun g v wr => DcRel qs (.slice aok qs.length capk) t V1 V2 V3 (w.heap.size + 1) w4.heap.size w g v wr)
  case atStart => exact HST.out
  case round =>
    clear HST
    obtain ⟨j, hj, rfl, xs, vb, hxs, hU, hob, hR, hk, hb⟩ := hrel
    obtain ⟨aob, capb, rfl, hrd⟩ := hob.form
    have y0 : wr.cell? ⟨w4.heap.size, 0, none⟩ = some (.int .i64 t) := cellRow hU 0
    have y1 : wr.cell? ⟨w4.heap.size, 1, none⟩ = some (.int .i64 V1) := cellRow hU 1
    have y2 : wr.cell? ⟨w4.heap.size, 2, none⟩ = some (.int .i64 V2) := cellRow hU 2
    have y3 : wr.cell? ⟨w4.heap.size, 3, none⟩ = some (.int .i64 V3) := cellRow hU 3
    have y4 : wr.cell? ⟨w4.heap.size, 4, none⟩ = some (.slice aob xs.length capb) := cellRow hU 4
    cases gk with
    | zero =>
      obtain rfl : j = qs.length := by omega
      rw [List.take_length] at hxs
      have hxl : xs.length ≤ 4096 := by
        have := deL_len _ _ hxs; omega
      have HXS := Lib.hid hxs
      have HLM := Lib.hid (deL_lim _ _ hxs).lim
      clear hxs hk HQL
      have PX := hR.set nou none 0
      have bb := below_set5 hb (b := w.heap.size + 1) (Nat.le_succ _) (.int .i64 0) (.int .i64 0) (.int .i64 0) (.int .i64 0) (.slice none 0 0)
      obtain ⟨c0, c1, c2, c3, c4⟩ := hR.cells
      obtain ⟨f0, f1, f2, f3, f4⟩ := hR.free
      have e1 : nOk l1 = true → nuE l1 = 0 := fun h => (nu_yes h).2
      have e2 : nOk l2 = true → nuE l2 = 0 := fun h => (nu_yes h).2
      have e3 : nOk l3 = true → nuE l3 = 0 := fun h => (nu_yes h).2
      cases k1 : nOk l1
      · have n1 : (((nuE l1 : Nat) : Int) != 0) = true := by rw [(nu_no k1).2]; rfl
        have HE := Lib.hid (HD1.out (fun hc => by rw [k1] at hc; exact absurd hc.2.2.2.2.1 (by simp)))
        clear e1 e2 e3 k1 hob hrd hR hU hb
        generalize nuE l1 = E1 at *
        go_wp2
        refine bodyPost_ret (results_cell_row2 rfl _ _ (w.heap.size + 1) _ _ _ _ rfl PX Tryz.underlying60 rfl (by kernel_rfl)) rfl ?_
        exact HNo.out HE.out _ bb
      cases k2 : nOk l2
      · have n2 : (((nuE l2 : Nat) : Int) != 0) = true := by rw [(nu_no k2).2]; rfl
        have HE := Lib.hid (HD1.out (fun hc => by rw [k2] at hc; exact absurd hc.2.2.2.2.2.1 (by simp)))
        rw [e1 k1]
        clear e1 e2 e3 k1 k2 hob hrd hR hU hb
        generalize nuE l2 = E2 at *
        go_wp2
        refine bodyPost_ret (results_cell_row2 rfl _ _ (w.heap.size + 1) _ _ _ _ rfl PX Tryz.underlying60 rfl (by kernel_rfl)) rfl ?_
        exact HNo.out HE.out _ bb
      cases k3 : nOk l3
      · have n3 : (((nuE l3 : Nat) : Int) != 0) = true := by rw [(nu_no k3).2]; rfl
        have HE := Lib.hid (HD1.out (fun hc => by rw [k3] at hc; exact absurd hc.2.2.2.2.2.2 (by simp)))
        rw [e1 k1, e2 k2]
        clear e1 e2 e3 k1 k2 k3 hob hrd hR hU hb
        generalize nuE l3 = E3 at *
        go_wp2
        refine bodyPost_ret (results_cell_row2 rfl _ _ (w.heap.size + 1) _ _ _ _ rfl PX Tryz.underlying60 rfl (by kernel_rfl)) rfl ?_
        exact HNo.out HE.out _ bb
      rw [e1 k1, e2 k2, e3 k3]
      rcases HE4.out with ⟨he4, hqs⟩ | ⟨he4, c, hc⟩
      rotate_left
      · have HE := Lib.hid (HD2.out (fun qs' xs' h1 _ => by rw [hc] at h1; cases h1))
        clear e1 e2 e3 k1 k2 k3 hob hrd hR hU hb hc
        go_wp2
        refine bodyPost_ret (results_cell_row2 rfl _ _ (w.heap.size + 1) _ _ _ _ rfl PX Tryz.underlying60 rfl (by kernel_rfl)) rfl ?_
        exact HNo.out HE.out _ bb
      rw [he4]
      have hv := HV.out
      rw [(nu_yes k1).1, (nu_yes k2).1, (nu_yes k3).1] at hv
      obtain ⟨v1, v2, v3⟩ := hv
      have hDU := HD3.out qs xs k1 k2 k3 hqs HXS.out
      rw [v1, v2, v3] at hDU
      have hC := fun w1 (h : RdB w1 aob xs) => qcheck8_walk ⟨t, V1, V2, V3, xs⟩ aob capb (by show xs.length ≤ _; omega) HLM.out w1 h
      simp only [] at hC
      unfold ckU at hC
      clear e1 e2 e3 k1 k2 k3 v1 v2 v3 he4 hqs PX bb c0 c1 c2 c3 c4 f0 f1 f2 f3 f4
      cases hok : Un.ok ⟨t, V1, V2, V3, xs⟩
      · rw [hok] at hC hDU
        have HE := Lib.hid (show deU t b = none by rw [hDU]; rfl)
        have HC := Lib.hid hC
        have HRD := Lib.hid hrd
        clear hC hDU hok hrd hob
        go_wp2_with fail
        refine (HC.out _ HRD.out).mono ?_
        rintro e w5 ⟨rfl, d5⟩
        have hR5 := hR.below d5
        have hb5 := hb.trans (d5.mono hb.size)
        obtain ⟨c0, c1, c2, c3, c4⟩ := hR5.cells
        obtain ⟨f0, f1, f2, f3, f4⟩ := hR5.free
        have PX := hR5.set nou none 0
        have bb := below_set5 hb5 (b := w.heap.size + 1) (Nat.le_succ _) (.int .i64 0) (.int .i64 0) (.int .i64 0) (.int .i64 0) (.slice none 0 0)
        clear hR hR5 hb hb5 d5 hU y0 y1 y2 y3 y4
        go_wp2
        refine bodyPost_ret (results_cell_row2 rfl _ _ (w.heap.size + 1) _ _ _ _ rfl PX Tryz.underlying60 rfl (by kernel_rfl)) rfl ?_
        exact HNo.out HE.out _ bb
      · rw [hok] at hC hDU
        have HE := Lib.hid (du_some (show deU t b = some ⟨t, V1, V2, V3, xs⟩ by rw [hDU]; rfl))
        have HC := Lib.hid hC
        have HRD := Lib.hid hrd
        clear hC hDU hok hrd
        go_wp2_with fail
        refine (HC.out _ HRD.out).mono ?_
        rintro e w5 ⟨rfl, d5⟩
        have hR5 := hR.below d5
        have ho5 := hob.below d5
        have hU5 := (d5.block _ (lt_of_block hU)).trans hU
        have hb5 := hb.trans (d5.mono hb.size)
        obtain ⟨c0, c1, c2, c3, c4⟩ := hR5.cells
        obtain ⟨f0, f1, f2, f3, f4⟩ := hR5.free
        have z0 : w5.cell? ⟨w4.heap.size, 0, none⟩ = some (.int .i64 t) := cellRow hU5 0
        have z1 : w5.cell? ⟨w4.heap.size, 1, none⟩ = some (.int .i64 V1) := cellRow hU5 1
        have z2 : w5.cell? ⟨w4.heap.size, 2, none⟩ = some (.int .i64 V2) := cellRow hU5 2
        have z3 : w5.cell? ⟨w4.heap.size, 3, none⟩ = some (.int .i64 V3) := cellRow hU5 3
        have z4 : w5.cell? ⟨w4.heap.size, 4, none⟩ = some (.slice aob xs.length capb) := cellRow hU5 4
        have PX := hR5.set ⟨t, V1, V2, V3, xs⟩ aob capb
        have bb := below_set5 hb5 (b := w.heap.size + 1) (Nat.le_succ _) (.int .i64 t) (.int .i64 V1) (.int .i64 V2) (.int .i64 V3) (.slice aob xs.length capb)
        have HO := Lib.hid (own_set5 ho5 hR5 (by decide) (.int .i64 t) (.int .i64 V1) (.int .i64 V2) (.int .i64 V3) (.slice aob xs.length capb))
        simp only [] at PX
        clear hR hR5 hb hb5 d5 hU hU5 ho5 hob y0 y1 y2 y3 y4
        go_wp2
        refine bodyPost_ret (results_cell_row2 rfl _ _ (w.heap.size + 1) _ _ _ _ rfl PX Tryz.underlying60 rfl (by kernel_rfl)) rfl ?_
        have hcap := OwnB.capOf HO.out
        obtain ⟨ao9, cap9, h9, r9⟩ := OwnB.form HO.out
        simp only [Value.slice.injEq, true_and] at h9
        obtain ⟨rfl, rfl⟩ := h9
        exact ⟨aob, capb, by rw [HE.out.1, HE.out.2]; rfl, by rw [HE.out.1]; exact r9, bb, by rw [HE.out.1]; exact hcap.1, by rw [HE.out.1]; exact hcap.2⟩
    | succ g =>
      have hlt : j < qs.length := by omega
      obtain ⟨ao2, cap2, hv2, hf2⟩ := hk.form
      simp only [Value.slice.injEq, true_and] at hv2
      obtain ⟨rfl, rfl⟩ := hv2
      rcases hf2 with h0 | ⟨gk2, rfl, hgB, hgl, hgc⟩
      · omega
      obtain ⟨e0, e1⟩ := hgc j hlt
      clear hgc
      have hmem : qs.getD j (0, []) ∈ qs := by
        rw [List.getD_eq_getElem?_getD, List.getElem?_eq_getElem hlt]; exact List.getElem_mem hlt
      have HSN := Lib.hid (fun (x : Bd) (hx : deB (qs.getD j (0, [])) = some x) => (show deL (qs.take (j + 1)) = some (xs ++ [x]) by
        rw [List.take_succ_eq_append_getElem hlt]
        refine deL_one _ _ hxs ?_
        rw [List.getD_eq_getElem?_getD, List.getElem?_eq_getElem hlt] at hx
        exact hx))
      have HNN := Lib.hid (fun (hx : deB (qs.getD j (0, [])) = none) => HD2.out (fun qs' xs' h1 h2 => by
        rcases HE4.out with ⟨_, h⟩ | ⟨_, c, h⟩
        · rw [h] at h1
          injection h1 with h1
          subst h1
          rw [deL_not hmem hx] at h2; cases h2
        · rw [h] at h1; cases h1))
      have hqlen := HQL.out _ hmem
      obtain ⟨q, hqe⟩ : ∃ q, qs.getD j (0, []) = q := ⟨_, rfl⟩
      rw [hqe] at e0 e1 HSN HNN hqlen
      clear hmem hqe
      obtain ⟨q1, q2⟩ := q
      simp only [] at e0 e1 hqlen
      have HB := Lib.hid (fun w1 => qbind_walk q1 q2 hqlen w1)
      unfold BiPost at HB
      have hxl : xs.length ≤ 4096 := by
        have := deL_len _ _ hxs
        rw [List.length_take] at this; omega
      cases hd : deB (q1, q2) with
      | none =>
        have HE := Lib.hid (HNN.out hd)
        rw [hd] at HB
        clear HSN HNN hd hob hrd hxs hgB
        go_wp2_with fail
        refine (HB.out _).mono ?_
        rintro e w5 ⟨x, rfl, _, d5⟩
        replace hR := (hR.below d5).below (alloc_in w5 (.cells #[.string (bs x.o), .int .i64 x.k, .int .i64 x.n, .string (bs x.s)] 48))
        have hb5 := hb.trans (d5.mono hb.size)
        have hb6 := hb5.alloc hb5.size (.cells #[.string (bs x.o), .int .i64 x.k, .int .i64 x.n, .string (bs x.s)] 48)
        obtain ⟨c0, c1, c2, c3, c4⟩ := hR.cells
        obtain ⟨f0, f1, f2, f3, f4⟩ := hR.free
        have PX := hR.set nou none 0
        have bb := below_set5 hb6 (b := w.heap.size + 1) (Nat.le_succ _) (.int .i64 0) (.int .i64 0) (.int .i64 0) (.int .i64 0) (.slice none 0 0)
        clear hR hb hb5 hb6 hU hk d5
        go_wp2
        refine bodyPost_ret (results_cell_row2 rfl _ _ (w.heap.size + 1) _ _ _ _ rfl PX Tryz.underlying60 rfl (by kernel_rfl)) rfl ?_
        exact HNo.out HE.out _ bb
      | some y =>
        have HS := Lib.hid (HSN.out y hd)
        rw [hd] at HB
        clear HSN HNN hd hrd hxs hgB
        obtain ⟨i0, hi, hz0, hz1, hz2⟩ := bind_parts
        go_wp2_with fail
        refine (HB.out _).mono ?_
        rintro e w5 ⟨x, rfl, hxy, d5⟩
        obtain rfl := hxy y rfl
        clear hxy HB y0 y1 y2 y3 y4
        have a5 := alloc_in w5 (.cells #[.string (bs y.o), .int .i64 y.k, .int .i64 y.n, .string (bs y.s)] 48)
        have hx5 := Bq.new w5 y
        have hb5 := hb.trans (d5.mono hb.size)
        have hsz5 : w.heap.size ≤ w5.heap.size := hb5.size
        have hU5 := ((a5.block _ (lt_of_block ((d5.block _ (lt_of_block hU)).trans hU))).trans ((d5.block _ (lt_of_block hU)).trans hU))
        have hR5 := (hR.below d5).below a5
        have hk5 := (hk.below d5).below a5
        have ho5 := (hob.below d5).below a5
        have hb6 := hb5.trans (a5.mono hb5.size)
        have y4 : (w5.alloc (.cells #[.string (bs y.o), .int .i64 y.k, .int .i64 y.n, .string (bs y.s)] 48)).cell? ⟨w4.heap.size, 4, none⟩ = some (.slice aob xs.length capb) := cellRow hU5 4
        obtain ⟨x0, x1, x2, x3⟩ := hx5.cells
        clear hU hR hk hob hb d5 a5 hb5 e0 e1
        go_wp2_with (at_builtin; refine wpList_append_own _ rfl _ _ 25 rfl w.heap.size 48 i0 (.agg #[.string .empty, .int .i64 0, .int .i64 0, .string .empty]) 4 48 Tryz.underlying25 hi hz0 hz1 hz2 rfl (by decide) _ _ _ rfl (World.ownsRow.alloc ho5 _) _ 1 1 (cellsB y) rfl rfl ?c1 ?c2 ?c3 ?c4 ?c5 ?_)
        case c1 =>
          have hc1 := (Bq.new (w5.alloc (.cells #[.string (bs y.o), .int .i64 y.k, .int .i64 y.n, .string (bs y.s)] 48)) y).each
          rw [show (w5.alloc (.cells #[.string (bs y.o), .int .i64 y.k, .int .i64 y.n, .string (bs y.s)] 48)).heap.size = w5.heap.size + 1 by simp] at hc1
          exact hc1
        case c2 => exact one_cell y
        case c3 => unfold maxLen; omega
        case c4 => omega
        case c5 => simp; omega
        intro v7 w7 hown hgrow _
        have a6 := alloc_in (w5.alloc (.cells #[.string (bs y.o), .int .i64 y.k, .int .i64 y.n, .string (bs y.s)] 48)) (.cells #[.string (bs y.o), .int .i64 y.k, .int .i64 y.n, .string (bs y.s)] 48)
        have hb7 := (hb6.alloc hb6.size (.cells #[.string (bs y.o), .int .i64 y.k, .int .i64 y.n, .string (bs y.s)] 48)).grown hgrow (by simp; omega) (fun k hk => (World.ownsRow.lt ho5 k hk).1)
        have ho6 := ho5.below a6
        have hU7 := grown_keep ho6 hgrow ((a6.block _ (lt_of_block hU5)).trans hU5) (by decide)
        have hR7 := grown_keep ho6 hgrow (hR5.below a6) (by decide)
        have hk7 := OwnP.grown (hk5.below a6) ho6 hgrow (by decide)
        have HO := Lib.hid (OwnB.put hown)
        obtain ⟨ao7, cap7, hv7, _⟩ := OwnB.form HO.out
        rw [show (xs ++ [y]).length = xs.length + 1 by simp] at hv7
        subst hv7
        have y4' : w7.cell? ⟨w4.heap.size, 4, none⟩ = some (.slice aob xs.length capb) := cellRow hU7 4
        have f4' : w7.frozen? ⟨w4.heap.size, 4, none⟩ = false := freeRow hU7 4
        have hU8 := rowSet hU7 4 (.slice ao7 (xs.length + 1) cap7)
        have ho8 := own_set HO.out hU7 (by decide) 4 (.slice ao7 (xs.length + 1) cap7)
        have hR8 := Uq.keep (T := 60) hR7 (U := w4.heap.size) hRU 4 (.slice ao7 (xs.length + 1) cap7)
        have hk8 := OwnP.set hk7 hU7 (by decide) 4 (.slice ao7 (xs.length + 1) cap7)
        have hb8 := hb7.setCell (p := ⟨w4.heap.size, 4, none⟩) hbU (.slice ao7 (xs.length + 1) cap7)
        clear hown hgrow ho5 ho6 hb6 hb7 hU5 hU7 hR5 hR7 hk5 hk7 hx5 a6 x0 x1 x2 x3 y4
        have HU8 := Lib.hid hU8
        have HK8 := Lib.hid hk8
        have HR8 := Lib.hid hR8
        have HO8 := Lib.hid ho8
        clear hU8 hk8 hR8 ho8
        go_wp2
        go_roundg g
        case measure => omega
        case rel => exact ⟨j + 1, by omega, by simp, xs ++ [y], _, HS.out, HU8.out, HO8.out, HR8.out, HK8.out, hb8⟩
end Go.Proofs.YtmdibafofdghgaaGreatDoor
