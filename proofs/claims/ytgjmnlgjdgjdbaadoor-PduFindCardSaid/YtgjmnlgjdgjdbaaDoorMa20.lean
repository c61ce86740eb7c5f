/- Texts on the program and on the document, joined: PduTb, PduI, PduC, OidH. -/
import Derived.Test.YtgjmnlgjdgjdbaaDoorMa19
import Derived.Test.YtgjmnlgjdgjdbaaDoorMa17
import Derived.Test.YtgjmnlgjdgjdbaaDoorMa14
import Derived.Test.YtgjmnlgjdgjdbaaDoorCards
import Derived.Test.YtgjmnlgjdgjdbaaDoorTie
import Derived.Deep.DeepHandedRow
import Derived.Stop.LaidErr
import Derived.Test.YtgjmnlgjdgjdbaaDoorMa15
import Derived.Test.YtgjmnlgjdgjdbaaDoorMa12
/- What the variables hold, as the rows list them. -/
namespace Go.Proofs.YtgjmnlgjdgjdbaaDoor
open Go.ChangeShapes Go.WideShapes Go.ChangeAt Go.RowKit K O6
set_option linter.unusedVariables false

theorem starE : "*" ++ "errors.errorString" = "*errors.errorString" := by decide
theorem rowE (u : TypeId) (h : Tryd.prog.typeName? 3 u = some "*errors.errorString") : u = 127 :=
  typeName_ptr_named (nm := "errors.errorString") (by rw [starE]; kernel_rfl) (by kernel_rfl) (by decide) u (by rw [starE]; exact h)
theorem pow_data : (Rows.laid_internal_strconv_uint64pow10 : DataW Unit) = Lib.tabData .u64 Lib.pow10Tab := rfl
/-- One of a row's errors. -/
theorem errOf {W : World} {n : String} {text : List UInt8} {r : List (String × DataW Unit)} {g : Nat} (h : laidMet Tryd.prog ((n, .iface "*errors.errorString" (.ptr (.agg [.lit (.string text)]))) :: r) W)
    (hg : Tryd.prog.globalNamed n = some g) (ht : (Tryd.prog.globals[g]?).map (·.type) = some 56) : ∃ te pe, W.cell? ⟨g, 0, none⟩ = some (.iface te pe) := by
  obtain ⟨a0, s0, hv0, -, -, -⟩ := laid_sentinel h hg ht Tryd.underlying56 rowE Tryd.underlying127 Tryd.underlying129 rfl rfl Tryd.underlying9 (by kernel_rfl) (by kernel_rfl)
  exact ⟨_, _, by have h0 := World.var?_cell hg hv0 0; simpa using h0⟩
theorem least_data : (Rows.laid_gong_pdu_least : DataW Unit) = Lib.tabData .i64 [-2147483648, 0, 0] := rfl
theorem leastOf {W : World} {L : List (String × DataW Unit)} (h : laidMetH Tryd.prog L W) (hp : (L.all fun x => x.2.handleName?.isNone) = true) (hm : ("gong/pdu.least", Rows.laid_gong_pdu_least) ∈ L) : Least W := by
  rw [least_data] at hm
  have hT := laid_tab h hp hm (by kernel_rfl : Tryd.prog.globalNamed "gong/pdu.least" = some 0) (by kernel_rfl : (Tryd.prog.globals[0]?).map (·.type) = some 53) Tryd.underlying53 Tryd.underlying3 (by kernel_rfl) (by kernel_rfl)
  have h0 := hT.cell (by kernel_rfl : Tryd.prog.globalNamed "gong/pdu.least" = some 0) 0 (by decide)
  have h1 := hT.cell (by kernel_rfl : Tryd.prog.globalNamed "gong/pdu.least" = some 0) 1 (by decide)
  have h2 := hT.cell (by kernel_rfl : Tryd.prog.globalNamed "gong/pdu.least" = some 0) 2 (by decide)
  exact ⟨h0, h1, h2⟩
theorem tabsOf {W : World} (h : laidMetH Tryd.prog [("math/bits.deBruijn32tab", Rows.laid_math_bits_deBruijn32tab), ("math/bits.deBruijn64tab", Rows.laid_math_bits_deBruijn64tab), ("internal/strconv.uint64pow10", Rows.laid_internal_strconv_uint64pow10), ("unicode/utf8.acceptRanges", Rows.laid_unicode_utf8_acceptRanges), ("strconv.ErrRange", Rows.laid_strconv_ErrRange), ("strconv.ErrSyntax", Rows.laid_strconv_ErrSyntax), ("gong/pdu.least", Rows.laid_gong_pdu_least), ("unicode/utf8.first", Rows.laid_unicode_utf8_first)] W) (hS : W.ShapedOpen Tryd.prog) : Tp W := by
  have hm : laidMet Tryd.prog [("math/bits.deBruijn32tab", Rows.laid_math_bits_deBruijn32tab), ("math/bits.deBruijn64tab", Rows.laid_math_bits_deBruijn64tab), ("internal/strconv.uint64pow10", Rows.laid_internal_strconv_uint64pow10), ("unicode/utf8.acceptRanges", Rows.laid_unicode_utf8_acceptRanges), ("strconv.ErrRange", Rows.laid_strconv_ErrRange), ("strconv.ErrSyntax", Rows.laid_strconv_ErrSyntax), ("gong/pdu.least", Rows.laid_gong_pdu_least), ("unicode/utf8.first", Rows.laid_unicode_utf8_first)] W := by
    have h2 := h
    rw [MakeChecks.laidMetH_plain _ _ _ (by kernel_rfl)] at h2
    exact h2
  have h5 := hm.tail.tail.tail.tail
  refine ⟨⟨Tryd.laysM147.s1_3 W hS, errOf h5.tail (by kernel_rfl) (by kernel_rfl), errOf h5 (by kernel_rfl) (by kernel_rfl), ?_⟩, leastOf h (by kernel_rfl) (List.Mem.tail _ (List.Mem.tail _ (List.Mem.tail _ (List.Mem.tail _ (List.Mem.tail _ (List.Mem.tail _ (List.Mem.head _)))))))⟩
  exact laid_tab (zs := Lib.pow10Tab) h (by kernel_rfl) (by rw [← pow_data]; exact (List.Mem.tail _ (List.Mem.tail _ (List.Mem.head _)))) (by kernel_rfl : Tryd.prog.globalNamed "internal/strconv.uint64pow10" = some 6) (by kernel_rfl : (Tryd.prog.globals[6]?).map (·.type) = some 131) Tryd.underlying131 Tryd.underlying78 (by kernel_rfl) (by kernel_rfl)
end Go.Proofs.YtgjmnlgjdgjdbaaDoor
/- pdu's areBinds, Check, walked. -/
namespace Go.Proofs.YtgjmnlgjdgjdbaaDoor
open Go.ChangeShapes Go.WideShapes Go.ChangeAt Go.RowKit K P1 B5
open D8 (Bd Un lst)
set_option linter.unusedVariables false

/-- Texts that are not too long for the program's walk. -/
def LimP (xs : List Bd) : Prop := ∀ x ∈ xs, x.o.length ≤ 1000000 ∧ x.s.length ≤ 1000000 ∧ x.fits
theorem LimP.lim {xs : List Bd} (h : LimP xs) : Lim xs := fun x hx => ⟨by have := (h x hx).1; omega, by have := (h x hx).2.1; omega, (h x hx).2.2⟩
theorem LimP.at {xs : List Bd} (h : LimP xs) {i : Nat} (hi : i < xs.length) : (xs.getD i nob).o.length ≤ 1000000 ∧ (xs.getD i nob).s.length ≤ 1000000 ∧ (xs.getD i nob).fits := by
  rw [List.getD_eq_getElem?_getD, List.getElem?_eq_getElem hi]
  exact h _ (List.getElem_mem hi)
set_option maxRecDepth 100000 in
set_option maxHeartbeats 1000000 in
theorem arebinds_walk (xs : List Bd) (ao : Option Addr) (cap : Nat) (hl : xs.length ≤ 140737488351232) (hx : LimP xs) (w : World) (T : Tabs w) (hr : RdB w ao xs) :
    Calls Tryd.prog 30 #[.slice ao xs.length cap] w fun e w' => e = .returned (.bool (decide (xs.length ≤ 4096) && xs.all Bd.ok)) ∧ Below w.heap.size w w' := by
  have HT := Lib.hid T
  clear T
  by_cases h4 : xs.length ≤ 4096
  · rw [decide_eq_true h4, Bool.true_and]
    have h4' : ((xs.length : Nat) : Int) ≤ 4096 := by omega
    go_enter Tryd.func30, Tryd.ntmps30
    go_wp2_with fail
    go_loopg [12] xs.length (fun g v wr => IbRel xs w g v wr)
    case atStart => exact ⟨0, by omega, rfl, rfl, Below.refl _ _⟩
    case round =>
      obtain ⟨i, hi, rfl, hall, hb⟩ := hrel
      cases gk with
      | zero =>
        obtain rfl : i = xs.length := by omega
        rw [List.take_length] at hall
        have HALL := Lib.hid hall
        clear hall
        go_wp2
        go_ret
        exact ⟨by rw [HALL.out]; rfl, hb⟩
      | succ g =>
        have hlt : i < xs.length := by omega
        obtain ⟨l1, l2, l3⟩ := hx.at hlt
        have HTK := Lib.hid (take_all hlt)
        have HNO := Lib.hid (fun h => all_not (xs := xs) hlt h)
        obtain ⟨x, hxe⟩ : ∃ x, xs.getD i nob = x := ⟨_, rfl⟩
        obtain ⟨b, off, rfl, hbl, c0, c1, c2, c3⟩ := (hr.below hb).at hlt hxe
        rw [hxe] at l1 l2 HTK HNO
        rw [hall] at HTK
        have hA := fun w1 (h : Tabs w1) => arcs_walk x.o l1 w1 h
        unfold ArPost at hA
        have hC := fun w1 (h : Tabs w1) => check_walk7 x.k x.n x.s l2 w1 h
        have hq := Bq.new wr x
        have ba := alloc_in wr (.cells #[.string (bs x.o), .int .i64 x.k, .int .i64 x.n, .string (bs x.s)] 29)
        have HTr := Lib.hid (HT.out.below (hb.trans (ba.mono hb.size)))
        clear hall hxe
        cases hx0 : O6.arcs x.o with
        | none =>
          have e : x.ok = false := by unfold Bd.ok; rw [hx0]; rfl
          have HAL := Lib.hid (HNO.out e)
          have e1 : (((arE x.o : Nat) : Int) != 0) = true := by rw [(ar_none hx0).1]; rfl
          have HA := Lib.hid hA
          clear hA hC e hx0 HTK HNO
          generalize arE x.o = E at *
          go_wp2_with fail
          refine (HA.out _ HTr.out).mono ?_
          rintro e w1 ⟨va, rfl, hoa, hb1⟩
          have hb2 := hb.trans ((Below_in hb1).mono hb.size)
          clear hb1
          go_wp2
          go_ret
          exact ⟨by rw [HAL.out]; rfl, hb2⟩
        | some l =>
          have e : x.ok = V7.ckV x.k x.n x.s := by unfold Bd.ok; rw [hx0]; rfl
          have e1 : arE x.o = 0 := (ar_some hx0).1
          rw [e1] at hA
          rw [e] at HTK HNO
          unfold V7.ckE at hC
          have HA := Lib.hid hA
          cases hk : V7.ckV x.k x.n x.s
          · have HAL := Lib.hid (HNO.out hk)
            rw [hk] at hC
            have HC := Lib.hid hC
            clear hA hC e e1 hx0 HTK HNO hk
            go_wp2_with fail
            refine (HA.out _ HTr.out).mono ?_
            rintro e w1 ⟨va, rfl, hoa, hb1⟩
            have HT1 := Lib.hid (HTr.out.below hb1)
            obtain ⟨z0, z1, z2, z3⟩ := (hq.below hb1).cells
            have hb2 := hb.trans ((Below_in hb1).mono hb.size)
            clear hb1
            go_wp2_with fail
            refine (HC.out _ HT1.out).mono ?_
            rintro e w2 ⟨rfl, d2⟩
            go_wp2
            go_ret
            exact ⟨by rw [HAL.out]; rfl, hb2.trans (d2.mono hb2.size)⟩
          · rw [hk] at hC HTK
            have HC := Lib.hid hC
            clear hA hC e e1 hx0 HNO hk
            go_wp2_with fail
            refine (HA.out _ HTr.out).mono ?_
            rintro e w1 ⟨va, rfl, hoa, hb1⟩
            have HT1 := Lib.hid (HTr.out.below hb1)
            obtain ⟨z0, z1, z2, z3⟩ := (hq.below hb1).cells
            have hb2 := hb.trans ((Below_in hb1).mono hb.size)
            clear hb1
            go_wp2_with fail
            refine (HC.out _ HT1.out).mono ?_
            rintro e w2 ⟨rfl, d2⟩
            go_wp2
            go_roundg g
            case measure => omega
            case rel => exact ⟨i + 1, by omega, by simp, HTK.out, hb2.trans (d2.mono hb2.size)⟩
  · have h4' : (4096 : Int) < ((xs.length : Nat) : Int) := by omega
    rw [decide_eq_false h4, Bool.false_and]
    go_enter Tryd.func30, Tryd.ntmps30
    go_wp2
    go_ret
    exact ⟨rfl, Below.refl _ _⟩
set_option maxRecDepth 100000 in
set_option maxHeartbeats 4000000 in
theorem check8_walk (u : Un) (ao : Option Addr) (cap : Nat) (hl : u.l.length ≤ 140737488351232) (hx : LimP u.l) (w : World) (T : Tp w) (hr : RdB w ao u.l) :
    Calls Tryd.prog 14 #[.agg #[.int .i64 u.t, .int .i64 u.r, .int .i64 u.a, .int .i64 u.i, .slice ao u.l.length cap]] w fun e w' => e = .returned (.int .i64 (ckU u : Nat)) ∧ Below w.heap.size w w' := by
  have hba := alloc_in w (.cells #[.int .i64 u.t, .int .i64 u.r, .int .i64 u.a, .int .i64 u.i, .slice ao u.l.length cap] 37)
  have huq := Uq.new 37 w u ao cap
  have hB := fun w1 (h : Tabs w1) (hr : RdB w1 ao u.l) => arebinds_walk u.l ao cap hl hx w1 h hr
  have HR := Lib.hid (hr.below hba)
  have HT := Lib.hid (T.below hba)
  have HN := Lib.hid (fun w1 => numbersof_walk u.t u.r u.a u.i ao u.l.length cap w1)
  have hM := fun w1 (h : Least w1) => maybe8_walk u.r u.a u.i w1 h
  have hI := fun w1 => istag8_walk u.t w1
  have he : u.ok = ((u.t == 162 || (u.t == 166 || u.t == 167)) && (nb u.r u.a u.i && (decide (u.l.length ≤ 4096) && u.l.all Bd.ok))) := by
    unfold Un.ok nb
    simp only [Bool.and_assoc]
  clear T hr
  unfold ckU
  rw [he]
  clear he
  cases hi : (u.t == 162 || (u.t == 166 || u.t == 167))
  · rw [hi] at hI
    have HI := Lib.hid hI
    rw [Bool.false_and]
    clear hI hM hB hi HN
    go_enter Tryd.func14, Tryd.ntmps14
    go_wp2_with fail
    refine (HI.out _).mono ?_
    rintro e w1 ⟨rfl, rfl⟩
    go_wp2
    go_ret
    exact ⟨rfl, hba⟩
  · rw [hi] at hI
    have HI := Lib.hid hI
    rw [Bool.true_and]
    cases hn : nb u.r u.a u.i
    · rw [hn] at hM
      have HM := Lib.hid hM
      rw [Bool.false_and]
      clear hI hM hB hi hn
      go_enter Tryd.func14, Tryd.ntmps14
      go_wp2_with fail
      refine (HI.out _).mono ?_
      rintro e w1 ⟨rfl, rfl⟩
      go_wp2_with fail
      refine (HN.out _).mono ?_
      rintro e w2 ⟨rfl, b2⟩
      go_wp2_with fail
      refine (HM.out _ (HT.out.2.below b2)).mono ?_
      rintro e w3 ⟨rfl, b3⟩
      go_wp2
      go_ret
      exact ⟨rfl, Below_in (b2.trans (b3.mono b2.size))⟩
    · rw [hn] at hM
      have HM := Lib.hid hM
      rw [Bool.true_and]
      cases hc : (decide (u.l.length ≤ 4096) && u.l.all Bd.ok)
      all_goals
        rw [hc] at hB
        have HB := Lib.hid hB
        clear hI hM hB hi hn hc
        go_enter Tryd.func14, Tryd.ntmps14
        go_wp2_with fail
        refine (HI.out _).mono ?_
        rintro e w1 ⟨rfl, rfl⟩
        go_wp2_with fail
        refine (HN.out _).mono ?_
        rintro e w2 ⟨rfl, b2⟩
        go_wp2_with fail
        refine (HM.out _ (HT.out.2.below b2)).mono ?_
        rintro e w3 ⟨rfl, b3⟩
        have b23 := b2.trans (b3.mono b2.size)
        obtain ⟨z0, z1, z2, z3, z4⟩ := (huq.below b23).cells
        go_wp2_with fail
        refine (HB.out _ (HT.out.1.below b23) (HR.out.below b23)).mono ?_
        rintro e w4 ⟨rfl, b4⟩
        go_wp2
        go_ret
        exact ⟨rfl, Below_in (b23.trans (b4.mono b23.size))⟩
end Go.Proofs.YtgjmnlgjdgjdbaaDoor
/- The document's Put and Encode of units, walked. -/
namespace Go.Proofs.YtgjmnlgjdgjdbaaDoor
open Go.ChangeShapes Go.WideShapes Go.ChangeAt Go.RowKit K P1 B5
open D8 (Bd Un lst)
set_option linter.unusedVariables false

theorem lst_app (a b : List Bd) : lst (a ++ b) = lst a ++ lst b := by
  unfold lst
  rw [List.map_append, List.flatMap_append]
theorem lst_one (x : Bd) : lst [x] = put 48 x.body := by
  show put 48 x.body ++ [] = _
  rw [List.append_nil]
theorem lst_take {xs : List Bd} {i : Nat} (hi : i < xs.length) : lst (xs.take (i + 1)) = lst (xs.take i) ++ put 48 (xs.getD i nob).body := by
  rw [List.take_succ_eq_append_getElem hi, lst_app, lst_one, List.getD_eq_getElem?_getD, List.getElem?_eq_getElem hi]; rfl
theorem ok_at {xs : List Bd} (h : ∀ x ∈ xs, x.ok = true) {i : Nat} (hi : i < xs.length) : (xs.getD i nob).ok = true := by
  rw [List.getD_eq_getElem?_getD, List.getElem?_eq_getElem hi]
  exact h _ (List.getElem_mem hi)
/-- What the element of a bind that may be comes to. -/
theorem bd_puts {x : Bd} (h : x.ok = true) : enS x.o = V7.ob x.o ∧ arE x.o = 0 ∧ V7.ckV x.k x.n x.s = true ∧ x.body = put 6 (V7.ob x.o) ++ V7.enT x.k x.n x.s ∧ (V7.ob x.o).length ≤ 640 ∧ x.body.length ≤ 66300 ∧ x.o.length ≤ 140737488351232 := by
  have h1 := (D8.bd_parts h).2
  have h0 := h
  unfold Bd.ok at h
  rw [Bool.and_eq_true] at h
  obtain ⟨l, hl⟩ := Option.isSome_iff_exists.1 h.1
  have hL := (D8.ob_facts h.1).2.2
  obtain ⟨a1, a2⟩ := (O6.arcs_iff _ _).1 hl
  have p1 := O6.put_len l (O6.isArcs_le a1)
  have p2 := (O6.isArcs_len a1).2
  refine ⟨?_, (ar_some hl).1, h.2, ?_, hL, h1, by rw [← a2]; omega⟩
  · unfold enS V7.ob; rw [hl, (ar_some hl).2]; rfl
  · unfold Bd.body; rw [(V7.en_next h.2).1]
theorem lst_take_len {xs : List Bd} (h : ∀ x ∈ xs, x.ok = true) (hl : xs.length ≤ 4096) (i : Nat) : (lst (xs.take i)).length ≤ 271605760 := by
  have h1 := D8.lst_len (xs.take i) (fun x hx => h x (List.mem_of_mem_take hx))
  rw [List.length_take] at h1
  have : min i xs.length ≤ xs.length := Nat.min_le_right _ _
  omega
theorem Uq.four {T : TypeId} {w : World} {b : Nat} {u : Un} {ao : Option Addr} {cap : Nat} (h : Uq T w b u ao cap) : w.cell? ⟨b, 0, none⟩ = some (.int .i64 u.t) ∧ w.cell? ⟨b, 1, none⟩ = some (.int .i64 u.r) ∧ w.cell? ⟨b, 2, none⟩ = some (.int .i64 u.a) ∧ w.cell? ⟨b, 3, none⟩ = some (.int .i64 u.i) :=
  ⟨cellRow h 0, cellRow h 1, cellRow h 2, cellRow h 3⟩
theorem cell_below {w w' : World} {p : Addr} {v : Value} (h : w.cell? p = some v) (k : Below w.heap.size w w') : w'.cell? p = some v := (k.cell (World.block_lt_of_cell? w _ h)).trans h
end Go.Proofs.YtgjmnlgjdgjdbaaDoor
/- The document's own Child, walked. -/
namespace Go.Proofs.YtgjmnlgjdgjdbaaDoor
open Go.ChangeShapes Go.WideShapes Go.ChangeAt Go.RowKit K O6
set_option linter.unusedVariables false

theorem ownI_empty (w : World) (B : Nat) (T : TypeId) (hB : B ≤ w.heap.size) : OwnI (w.alloc (.cells #[] T)) B T (.slice (some ⟨w.heap.size, 0, none⟩) 0 0) [] :=
  ⟨rfl, .inr ⟨w.heap.size, 0, _, rfl, hB, rowNew w _, Nat.le_refl _, by unfold maxLen; omega, rfl, rfl⟩⟩
theorem OwnI.putAll {w : World} {B : Nat} {T : TypeId} {v : Value} {cs ds : List Nat} (h : w.ownsRow B T 1 v (cs.length + ds.length) (nums cs ++ nums ds)) : OwnI w B T v (cs ++ ds) := by
  unfold OwnI
  rw [List.length_append, nums_app]
  exact h
def chE (s : List UInt8) (x : Int) : Nat := match arcs s with
  | none => 60
  | some l => if inR x then (if isArcs (l ++ [x.toNat]) then 0 else 60) else 1
def chS (s : List UInt8) (x : Int) : List UInt8 := match arcs s with
  | none => []
  | some l => if inR x then (if isArcs (l ++ [x.toNat]) then put (l ++ [x.toNat]) else []) else []
theorem ch_none {s : List UInt8} (h : arcs s = none) (x : Int) : chE s x = 60 ∧ chS s x = [] := by unfold chE chS; rw [h]; exact ⟨rfl, rfl⟩
theorem ch_far {s : List UInt8} {l : List Nat} (h : arcs s = some l) {x : Int} (hx : inR x = false) : chE s x = 1 ∧ chS s x = [] := by
  unfold chE chS; rw [h]; simp [hx]
theorem ch_some {s : List UInt8} {l : List Nat} (h : arcs s = some l) {x : Int} (hx : inR x = true) :
    chE s x = (if isArcs (l ++ [x.toNat]) then 0 else 60) ∧ chS s x = (if isArcs (l ++ [x.toNat]) then put (l ++ [x.toNat]) else []) := by
  unfold chE chS; rw [h]; simp [hx]
end Go.Proofs.YtgjmnlgjdgjdbaaDoor
