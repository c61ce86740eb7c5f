/- Texts on the program and on the document, joined: BerI, BerJ, PduJ, PduE. -/
import Derived.Test.YtgjmnlgjdgjdbaaDoorMa24
import Derived.Test.YtgjmnlgjdgjdbaaDoorMa23
import Derived.Test.YtgjmnlgjdgjdbaaDoorMa21
import Derived.Test.YtgjmnlgjdgjdbaaDoorMa20
/- ber.Deep, walked. -/
namespace Go.Proofs.YtgjmnlgjdgjdbaaDoor
open Go.ChangeShapes Go.WideShapes Go.ChangeAt Go.RowKit K P1 B5
set_option linter.unusedVariables false

theorem stk_else {w : World} {B : Nat} {T : TypeId} {g cap : Nat} {ss : List (List UInt8)} (h : StkAt w B T g cap ss) (k i : Nat) (hk : g ≠ k) (u : Value) : StkAt (w.setCell ⟨k, i, none⟩ u) B T g cap ss := by
  obtain ⟨h1, h2, h3, C, hC, h4⟩ := h
  exact ⟨h1, h2, h3, C, (Below.heap_setCell _ _ _ _ hk).trans hC, h4⟩
theorem Prt.setElse {w : World} {b T : Nat} {t : Int} {s : List UInt8} (h : Prt w b T t s) (g i : Nat) (hg : b ≠ g) (u : Value) : Prt (w.setCell ⟨g, i, none⟩ u) b T t s :=
  (Below.heap_setCell _ _ _ _ hg).trans h
theorem Prt.below {w w' : World} {b T : Nat} {t : Int} {s : List UInt8} (h : Prt w b T t s) (k : Below w.heap.size w w') : Prt w' b T t s := (k.block b (lt_of_block h)).trans h
theorem str_infoI : (Tryd.prog.info? 9).map (fun i => (i.zero, i.size, i.bytes)) = some (some (.string .empty), 1, 16) := by kernel_rfl
theorem pts_le {l : List UInt8} (h : nxOk l = true) : (pts l).length ≤ l.length := by
  obtain ⟨_, _, _, _, h5⟩ := nx_of h
  unfold pts
  by_cases hm : isMade (nxT l) = true
  · rw [if_pos hm]; omega
  · rw [if_neg hm]; simp
end Go.Proofs.YtgjmnlgjdgjdbaaDoor
/- ber's short, Canon, walked. -/
namespace Go.Proofs.YtgjmnlgjdgjdbaaDoor
open Go.ChangeShapes Go.WideShapes Go.ChangeAt Go.RowKit K P1 B5
set_option linter.unusedVariables false

theorem bld_fresh (w : World) : Bld w.heap.size w.heap.size [] (w.alloc (.cells #[.pointer none, .slice none 0 0] 51)) :=
  .inl ⟨Nat.le_refl _, _, rowNew w _, World.ownsRow_nil _ _ _ _, by simp [Value.ownBlock]⟩
theorem prs_inv {a : Nat} {s : List UInt8} {g : Fo} (h : prs a s = .ok g) (hs : s ≠ []) :
    nxOk s = true ∧ ((isMade (nxT s) = true ∧ ∃ cs r, prs (a + 1) (nxB s) = .ok cs ∧ prs a (nxR s) = .ok r ∧ g = .node (nxT s) cs r) ∨ (isMade (nxT s) = false ∧ ∃ r, prs a (nxR s) = .ok r ∧ g = .leaf (nxT s) (nxB s) r)) := by
  rw [prs_step hs] at h
  by_cases hx : nxOk s = true
  · rw [if_neg (by rw [hx]; simp)] at h
    refine ⟨hx, ?_⟩
    by_cases ha : 32 < a
    · rw [if_pos ha] at h; cases h
    · rw [if_neg ha] at h
      by_cases hm : isMade (nxT s) = true
      · rw [if_pos hm] at h
        cases h1 : prs (a + 1) (nxB s) with
        | error e => rw [h1] at h; cases h
        | ok cs =>
          rw [h1] at h
          cases h2 : prs a (nxR s) with
          | error e => rw [h2] at h; cases h
          | ok r => rw [h2] at h; cases h; exact .inl ⟨hm, cs, r, rfl, rfl, rfl⟩
      · rw [if_neg hm] at h
        cases h2 : prs a (nxR s) with
        | error e => rw [h2] at h; cases h
        | ok r => rw [h2] at h; cases h; exact .inr ⟨by simpa using hm, r, rfl, rfl⟩
  · rw [Bool.not_eq_true] at hx
    rw [if_pos hx] at h; cases h
theorem bld_lt {w : World} {B b : Nat} {l : List UInt8} (h : Bld B b l w) : b < w.heap.size := by
  unfold Bld at h
  rcases h with h | h
  · exact h.lt
  · exact h.lt
def SoRel (l : List UInt8) (a : Nat) (f : Fo) (w : World) (b g : Nat) (v0 : Value) (wr : World) : Prop :=
  ∃ out s k, v0 = .string (bs s) ∧ s.length ≤ g ∧ s.length ≤ l.length ∧ prs a s = .ok k ∧ out ++ k.enc = f.enc ∧ Bld b b out wr ∧ Below b w wr
end Go.Proofs.YtgjmnlgjdgjdbaaDoor
/- pdu's wrap, element, list, walked. -/
namespace Go.Proofs.YtgjmnlgjdgjdbaaDoor
open Go.ChangeShapes Go.WideShapes Go.ChangeAt Go.RowKit K P1 B5
open D8 (Bd Un lst)
set_option linter.unusedVariables false

theorem wrap8_walk (t : Nat) (h2 : isTag t = true) (ht : t < 256) (b : List UInt8) (hb : b.length ≤ 16777216) (w : World) :
    Calls Tryd.prog 18 #[.int .i64 (t : Nat), .string (bs b)] w fun e w' => e = .returned (.string (bs (put t b))) ∧ Below w.heap.size w w' := by
  have hW := fun w1 => wrap_walk (t : Nat) b (by omega) w1
  rw [(wr_yes t b ht h2 hb).1, (wr_yes t b ht h2 hb).2] at hW
  have HW := Lib.hid hW
  clear hW h2 ht
  generalize put t b = R at *
  generalize ((t : Nat) : Int) = t' at *
  go_enter Tryd.func18, Tryd.ntmps18
  go_wp2_with fail
  refine (HW.out _).mono ?_
  rintro e w1 ⟨rfl, b1⟩
  go_wp2
  go_ret
  exact ⟨rfl, b1⟩
theorem ck_len8 {k n : Int} {s : List UInt8} (h : V7.ckV k n s = true) : s.length ≤ 65535 := by
  cases V7.ways h with
  | int hk hs => rw [hs]; simp
  | text hk hn hs => exact hs
  | null hk hn hs => rw [hs]; simp
  | oid hk hn l hl hs =>
    have q1 := O6.put_len l (O6.isArcs_le hl)
    have q2 := (O6.isArcs_len hl).2
    rw [← hs]; omega
  | addr hk hn hs => omega
  | count hk hs => rw [hs]; simp
  | big hk hs => rw [hs]; simp
set_option maxRecDepth 100000 in
set_option maxHeartbeats 1000000 in
theorem element_walk (x : Bd) (h : x.ok = true) (hf : x.fits) (w : World) (T : Tabs w) :
    Calls Tryd.prog 31 #[.agg #[.string (bs x.o), .int .i64 x.k, .int .i64 x.n, .string (bs x.s)]] w fun e w' => e = .returned (.string (bs (put 48 x.body))) ∧ Below w.heap.size w w' := by
  obtain ⟨p1, p2, p3, p4, p5, p6, p7⟩ := bd_puts h
  have hol : x.o.length ≤ 1000000 := by
    have h' := h
    unfold Bd.ok at h'
    rw [Bool.and_eq_true] at h'
    obtain ⟨l, hl⟩ := Option.isSome_iff_exists.1 h'.1
    obtain ⟨a1, a2⟩ := (O6.arcs_iff _ _).1 hl
    have q1 := O6.put_len l (O6.isArcs_le a1)
    have q2 := (O6.isArcs_len a1).2
    rw [← a2]; omega
  have hsl : x.s.length ≤ 1000000 := by have := ck_len8 p3; omega
  have hE := fun w1 (T1 : Tabs w1) => encode_walk x.o hol w1 T1
  rw [p1, p2] at hE
  have hV := fun w1 (T1 : Tabs w1) => encode_walk7 x.k x.n x.s hsl hf.1 hf.2 w1 T1
  have hW6 : ∀ w1, Calls Tryd.prog 18 #[.int .i64 6, .string (bs (V7.ob x.o))] w1 fun e w' => e = .returned (.string (bs (put 6 (V7.ob x.o)))) ∧ Below w1.heap.size w1 w' := fun w1 => wrap8_walk 6 (by decide) (by omega) (V7.ob x.o) (by omega) w1
  have hW48 : ∀ w1, Calls Tryd.prog 18 #[.int .i64 48, .string (bs x.body)] w1 fun e w' => e = .returned (.string (bs (put 48 x.body))) ∧ Below w1.heap.size w1 w' := fun w1 => wrap8_walk 48 (by decide) (by omega) x.body (by omega) w1
  have hln : (put 6 (V7.ob x.o) ++ V7.enT x.k x.n x.s).length ≤ 66300 := by rw [← p4]; exact p6
  rw [p4] at hW48 ⊢
  rw [List.length_append] at hln
  have hq := Bq.new w x
  have hba := alloc_in w (.cells #[.string (bs x.o), .int .i64 x.k, .int .i64 x.n, .string (bs x.s)] 29)
  have HT := Lib.hid (T.below hba)
  have HE := Lib.hid hE
  have HV := Lib.hid hV
  have HW6 := Lib.hid hW6
  have HW48 := Lib.hid hW48
  clear hE hV hW6 hW48 p1 p2 p3 p4 p5 p6 p7 hol hsl T h hf
  generalize put 6 (V7.ob x.o) = B6 at *
  generalize V7.enT x.k x.n x.s = BV at *
  generalize V7.ob x.o = OB at *
  generalize V7.ckE x.k x.n x.s = CE at *
  generalize put 48 (B6 ++ BV) = B48 at *
  have hcat : (9223372036854775807 < B6.length + BV.length) = False := eq_false (by omega)
  go_enter Tryd.func31, Tryd.ntmps31
  go_wp2_with fail
  refine (HE.out _ HT.out).mono ?_
  rintro e w1 ⟨rfl, b1⟩
  obtain ⟨z0, z1, z2, z3⟩ := (hq.below b1).cells
  have HT1 := Lib.hid (HT.out.below b1)
  go_wp2_with fail
  refine (HV.out _ HT1.out).mono ?_
  rintro e w2 ⟨rfl, d2⟩
  have b2 := b1.trans (d2.mono b1.size)
  go_wp2_with fail
  refine (HW6.out _).mono ?_
  rintro e w3 ⟨rfl, d3⟩
  have b3 := b2.trans (d3.mono b2.size)
  go_wp2_with fail
  refine (HW48.out _).mono ?_
  rintro e w4 ⟨rfl, d4⟩
  go_wp2
  go_ret
  exact ⟨rfl, Below_in (b3.trans (d4.mono b3.size))⟩
/-- A builder's length. -/
theorem blen (B b : Nat) (l : List UInt8) (w : World) (h : Bld B b l w) :
    Calls Tryd.prog 32 #[.pointer (some ⟨b, 0, none⟩)] w fun e w' => e = .returned (.int .i64 (l.length : Nat)) ∧ w = w' := by
  obtain ⟨v, p, hc, hn⟩ : ∃ v p, w.heap[b]? = some (.cells #[p, v] 51 (0, 0)) ∧ ∃ ao cap, v = .slice ao l.length cap := by
    have hl := cells_len l
    unfold Bld at h
    rcases h with ⟨hB, v, hbk, hown, hne⟩ | ⟨hB, v, hbk, hown, hne⟩
    · refine ⟨v, _, hbk, ?_⟩
      rcases hown.2 with ⟨hv, h0⟩ | ⟨g, cap, cur, hv, _⟩
      · exact ⟨none, 0, by rw [hv]; congr 1; omega⟩
      · exact ⟨_, cap, by rw [hv, hl]⟩
    · refine ⟨v, _, hbk, ?_⟩
      rcases hown.2 with ⟨hv, h0⟩ | ⟨g, cap, cur, hv, _⟩
      · exact ⟨none, 0, by rw [hv]; congr 1; omega⟩
      · exact ⟨_, cap, by rw [hv, hl]⟩
  obtain ⟨ao, cap, rfl⟩ := hn
  have c1 : w.cell? ⟨b, 1, none⟩ = some (.slice ao l.length cap) := cellRow hc 1
  clear h hc
  go_enter Tryd.func32, Tryd.ntmps32
  go_wp2
  go_ret
  exact ⟨rfl, rfl⟩
theorem lst_mono (xs : List Bd) (i : Nat) : (lst (xs.take i)).length ≤ (lst xs).length := by
  conv => rhs; rw [← List.take_append_drop i xs, lst_app, List.length_append]
  omega
def lsS (xs : List Bd) : List UInt8 := if (lst xs).length ≤ 65536 then lst xs else []
def lsB (xs : List Bd) : Bool := decide ((lst xs).length ≤ 65536)
theorem ls_yes {xs : List Bd} (h : (lst xs).length ≤ 65536) : lsS xs = lst xs ∧ lsB xs = true := ⟨if_pos h, decide_eq_true h⟩
theorem ls_no {xs : List Bd} (h : ¬ (lst xs).length ≤ 65536) : lsS xs = [] ∧ lsB xs = false := ⟨if_neg h, decide_eq_false h⟩
def Ls8Rel (xs : List Bd) (w : World) (g : Nat) (v : Value) (wr : World) : Prop :=
  ∃ i : Nat, i + g = xs.length ∧ v = .int .i64 (i : Nat) ∧ Bld w.heap.size w.heap.size (lst (xs.take i)) wr ∧ (lst (xs.take i)).length ≤ 65536 ∧ Below w.heap.size w wr
set_option maxRecDepth 100000 in
set_option maxHeartbeats 2000000 in
theorem list_walk8 (xs : List Bd) (ao : Option Addr) (cap : Nat) (hk : ∀ x ∈ xs, x.ok = true) (hf : Lim xs) (hl : xs.length ≤ 4096) (w : World) (T : Tabs w) (hr : RdB w ao xs) :
    Calls Tryd.prog 15 #[.slice ao xs.length cap] w fun e w' => e = .returned (.tuple #[.string (bs (lsS xs)), .bool (lsB xs)]) ∧ Below w.heap.size w w' := by
  have HT := Lib.hid T
  have HK := Lib.hid hk
  have hbf := bld_fresh w
  have hba : Below w.heap.size w (w.alloc (.cells #[.pointer none, .slice none 0 0] 51)) := (Below.refl _ _).alloc (Nat.le_refl _) _
  have HR0 := Lib.hid (show Ls8Rel xs w xs.length (.int .i64 (0 : Nat)) (w.alloc (.cells #[.pointer none, .slice none 0 0] 51)) from ⟨0, by omega, rfl, hbf, by simp [lst], hba⟩)
  clear T hk hbf hba
  go_enter Tryd.func15, Tryd.ntmps15
  go_wp2_with fail
  go_loopg [9] xs.length (fun g v wr => Ls8Rel xs w g v wr)
  case atStart => exact HR0.out
  case round =>
    clear HR0
    obtain ⟨i, hi, rfl, hB, hlen, hb⟩ := hrel
    cases gk with
    | zero =>
      obtain rfl : i = xs.length := by omega
      rw [List.take_length] at hB hlen
      have HL := Lib.hid hlen
      clear hlen
      go_wp2_with fail
      refine (bstr _ _ _ _ hB hb.size).mono ?_
      rintro e w1 ⟨rfl, b1⟩
      go_wp2
      go_ret2
      exact ⟨by rw [(ls_yes HL.out).1, (ls_yes HL.out).2]; rfl, hb.trans b1⟩
    | succ g =>
      have hlt : i < xs.length := by omega
      have HLT := Lib.hid (lst_take hlt)
      have hof := ok_at HK.out hlt
      have hxf := (hf.at hlt).2.2
      have HMO := Lib.hid (lst_mono xs (i + 1))
      obtain ⟨x, hxe⟩ : ∃ x, xs.getD i nob = x := ⟨_, rfl⟩
      obtain ⟨b, off, rfl, hbl, c0, c1, c2, c3⟩ := (hr.below (hb.mono (Nat.le_refl _))).at hlt hxe
      rw [hxe] at HLT hof hxf
      have hbz := (bd_puts hof).2.2.2.2.2.1
      have hpl : (put 48 x.body).length ≤ 66310 := by have := D8.short_le8 x.body.length; rw [put_len]; omega
      have HE := Lib.hid (fun w1 (T1 : Tabs w1) => element_walk x hof hxf w1 T1)
      have ba := alloc_in wr (.cells #[.string (bs x.o), .int .i64 x.k, .int .i64 x.n, .string (bs x.s)] 29)
      have hbz2 := hb.size
      have hB0 := bld_below hB ba
      have hb0 := hb.trans (ba.mono hb.size)
      have HT0 := Lib.hid (HT.out.below hb0)
      clear hof hxf hxe hbz ba hB
      generalize lst (xs.take i) = L0 at *
      generalize put 48 x.body = BX at *
      go_wp2_with fail
      generalize wr.alloc (.cells #[.string (bs x.o), .int .i64 x.k, .int .i64 x.n, .string (bs x.s)] 29) = w0 at *
      refine (HE.out _ HT0.out).mono ?_
      rintro e w1 ⟨rfl, d1⟩
      have hB1 := bld_below hB0 d1
      have hb1 := hb0.trans (d1.mono hb0.size)
      clear d1 hB0 hb0 HE HT0
      go_wp2_with fail
      refine (wstr _ _ _ BX _ hB1 (by omega) hb1.size).mono ?_
      rintro e w2 ⟨rfl, hB2, d2, _⟩
      have hb2 := hb1.trans d2
      clear d2 hB1 hb1
      go_wp2_with fail
      refine (blen _ _ _ _ hB2).mono ?_
      rintro e w3 ⟨rfl, rfl⟩
      by_cases hgt : (L0 ++ BX).length ≤ 65536
      · have hgt' : ((L0.length : Nat) : Int) + ((BX.length : Nat) : Int) ≤ 65536 := by rw [List.length_append] at hgt; omega
        go_wp2
        go_roundg g
        case measure => omega
        case rel => exact ⟨i + 1, by omega, by simp, by rw [HLT.out]; exact hB2, by rw [HLT.out]; exact hgt, hb2⟩
      · have hgt' : (65536 : Int) < ((L0.length : Nat) : Int) + ((BX.length : Nat) : Int) := by rw [List.length_append] at hgt; omega
        have HNO := Lib.hid (show ¬ (lst xs).length ≤ 65536 by have h1 := HMO.out; rw [HLT.out] at h1; omega)
        clear hgt
        go_wp2
        go_ret2
        exact ⟨by rw [(ls_no HNO.out).1, (ls_no HNO.out).2]; rfl, hb2⟩
end Go.Proofs.YtgjmnlgjdgjdbaaDoor
/- The document's Encode of units, walked. -/
namespace Go.Proofs.YtgjmnlgjdgjdbaaDoor
open Go.ChangeShapes Go.WideShapes Go.ChangeAt Go.RowKit K P1 B5
open D8 (Bd Un lst)
set_option linter.unusedVariables false

def eS (u : Un) : List UInt8 := if u.ok then (if u.el.length ≤ 65536 then u.el else []) else []
def eE (u : Un) : Nat := if u.ok then (if u.el.length ≤ 65536 then 0 else 2) else 80
theorem el_len {u : Un} (h : u.ok = true) : u.el.length ≤ 271700100 := by
  have h1 := (D8.un_parts h).2.2
  have h2 := D8.short_le8 u.body.length
  unfold Un.el
  rw [put_len]
  omega
end Go.Proofs.YtgjmnlgjdgjdbaaDoor
