/- Texts on the program and on the document, joined: ValN, ValTb, Arr, Stv, ValY. -/
import Derived.Test.YtkmfcnilbmckmaaGreatDoorMa27
import Derived.Test.YtkmfcnilbmckmaaGreatDoorMa28
import Derived.Test.YtkmfcnilbmckmaaGreatDoorMa35
import Derived.Test.YtkmfcnilbmckmaaGreatDoorMa37
import Derived.Test.YtkmfcnilbmckmaaGreatDoorMa33
import Derived.Test.YtkmfcnilbmckmaaGreatDoorMa41
import Derived.Test.YtkmfcnilbmckmaaGreatDoorMa21
import Derived.Test.YtkmfcnilbmckmaaGreatDoorCards
import Derived.Test.YtkmfcnilbmckmaaGreatDoorTie
import Derived.Deep.DeepHandedRow
import Derived.Stop.LaidErr
import Derived.OpenShut
import Derived.Test.YtkmfcnilbmckmaaGreatDoorMa19
/- value's Show, Big, walked: the program's values keep their word. -/
namespace Go.Proofs.YtkmfcnilbmckmaaGreatDoor
open Go.ChangeShapes Go.WideShapes Go.ChangeAt Go.RowKit K P1 B5
set_option linter.unusedVariables false

/-- What the tables hold. -/
def Tv (w : World) : Prop := Tabs w ∧ Leads w
theorem Tv.below {w w' : World} (h : Tv w) (k : Below w.heap.size w w') : Tv w' := ⟨h.1.below k, h.2.below k⟩
theorem itoa_sh (n : Int) (n0 : -9223372036854775808 ≤ n) (n1 : n ≤ 9223372036854775807) : (⟨(Lib.itoa n).toArray⟩ : ByteArray) = bs (shV 2 n []) := by
  have e : shV 2 n [] = if n < 0 then 45 :: O6.nm (V7.uu (-n)) else O6.nm (V7.uu n) := rfl
  rw [e]
  by_cases hneg : n < 0
  · rw [if_pos hneg]
    obtain ⟨u, rfl⟩ : ∃ u : Nat, n = -(u : Int) := ⟨n.natAbs, by omega⟩
    rw [Lib.itoa_neg u (by omega), Int.neg_neg, V7.uu_nat u (by omega)]
    have : O6.nm u = Lib.decDigits u := dec_dg 20 u (by omega) (by omega)
    rw [this]; rfl
  · rw [if_neg hneg]
    obtain ⟨u, rfl⟩ : ∃ u : Nat, n = u := ⟨n.toNat, by omega⟩
    rw [Lib.itoa_nonneg, V7.uu_nat u (by omega)]
    have : O6.nm u = Lib.decDigits u := dec_dg 20 u (by omega) (by omega)
    rw [this]; rfl
theorem itoa_walk7 (n : Int) (n0 : -9223372036854775808 ≤ n) (n1 : n ≤ 9223372036854775807) (w : World) (h : Tabs w) :
    Calls Tryz.prog 28 #[.int .i64 n] w fun e w' => e = .returned (.string (bs (shV 2 n []))) ∧ Below w.heap.size w w' := by
  refine (Tryz.strconv_Itoa n n0 n1 w h.2.2.2).mono ?_
  rintro e w' ⟨rfl, k, os, rfl⟩
  rw [itoa_sh n n0 n1]
  exact ⟨rfl, Lib.below_grow _ _ (Nat.le_refl _) _ _⟩
set_option maxRecDepth 100000 in
theorem show_no (k n : Int) (s : List UInt8) (hs : s.length ≤ 1000000) (h : V7.ckV k n s = false) (w : World) (T : Tv w) :
    Calls Tryz.prog 12 #[.agg #[.int .i64 k, .int .i64 n, .string (bs s)]] w fun e w' => e = .returned (.tuple #[.string (bs (shT k n s)), .int .i64 (V7.ckE k n s : Nat)]) ∧ Below w.heap.size w w' := by
  have hba := alloc_in w (.cells #[.int .i64 k, .int .i64 n, .string (bs s)] 24)
  have hM := mayBe_walk k n s hs _ (T.1.below hba)
  have e1 : shT k n s = [] ∧ V7.ckE k n s = 70 := by unfold shT V7.ckE; rw [h]; exact ⟨rfl, rfl⟩
  rw [e1.1, e1.2]
  rw [h] at hM
  have HM := Lib.hid hM
  clear hM h e1
  go_enter Tryz.func12, Tryz.ntmps12
  go_wp2_with fail
  refine HM.out.mono ?_
  rintro e w1 ⟨rfl, b1⟩
  go_wp2
  go_ret2
  exact ⟨rfl, Below_in b1⟩
set_option maxRecDepth 100000 in
set_option maxHeartbeats 4000000 in
theorem show_yes (k n : Int) (s : List UInt8) (hs : s.length ≤ 10000 ∨ 65535 < s.length) (n0 : -9223372036854775808 ≤ n) (n1 : n ≤ 9223372036854775807) (h : V7.ckV k n s = true) (w : World) (T : Tv w) :
    Calls Tryz.prog 12 #[.agg #[.int .i64 k, .int .i64 n, .string (bs s)]] w fun e w' => e = .returned (.tuple #[.string (bs (shT k n s)), .int .i64 (V7.ckE k n s : Nat)]) ∧ Below w.heap.size w w' := by
  have e2 : V7.ckE k n s = 0 := by unfold V7.ckE; rw [h]; rfl
  have e3 : shT k n s = shV k n s := by unfold shT; rw [h]; rfl
  have hw := V7.ways h
  have hlen : s.length ≤ 10000 := by
    cases hw with
    | int hk hs _ _ => subst hs; simp
    | text hk hn hs2 => rcases hs with hs | hs <;> omega
    | null hk hn hs => subst hs; simp
    | oid hk hn l hl hs =>
      have h1 := O6.put_len l (O6.isArcs_le hl)
      have h2 := (O6.isArcs_len hl).2
      rw [← hs]; omega
    | addr hk hn hs => omega
    | count hk hs _ _ => subst hs; simp
    | big hk hs => subst hs; simp
  have hba := alloc_in w (.cells #[.int .i64 k, .int .i64 n, .string (bs s)] 24)
  have hM := mayBe_walk k n s (by omega) _ (T.1.below hba)
  rw [h] at hM
  rw [e2, e3]
  have HM := Lib.hid hM
  have HT := Lib.hid (T.below hba)
  have hvn := Vr.new w k n s
  have hv : ∀ w1, Below (w.alloc (.cells #[.int .i64 k, .int .i64 n, .string (bs s)] 24)).heap.size (w.alloc (.cells #[.int .i64 k, .int .i64 n, .string (bs s)] 24)) w1 → Vr w1 w.heap.size k n s := fun w1 b => hvn.below b
  have HV := Lib.hid hv
  clear hM h e2 e3 hvn hv hs hba T
  cases hw with
  | int hk hs h0 h1 =>
    subst hk hs
    have HD := Lib.hid (fun w1 (h : Tabs w1) => itoa_walk7 n n0 n1 w1 h)
    generalize shV 2 n [] = R at *
    go_enter Tryz.func12, Tryz.ntmps12
    go_wp2_with fail
    refine HM.out.mono ?_
    rintro e w1 ⟨rfl, b1⟩
    obtain ⟨z0, z1, z2⟩ := HV.out _ b1
    have T1 := Lib.hid (HT.out.below b1)
    have b2 := Below_in b1
    clear b1
    go_wp2_with fail
    refine (HD.out _ T1.out.1).mono ?_
    rintro e w2 ⟨rfl, b3⟩
    go_wp2
    go_ret2
    exact ⟨rfl, b2.trans (b3.mono b2.size)⟩
  | text hk hn hs =>
    subst hn
    rcases hk with rfl | rfl
    · have e : shV 4 0 s = U4.shown s := rfl
      rw [e]
      clear e
      have HD := Lib.hid (fun w1 (h : Leads w1) => shown_walk s hlen w1 h)
      generalize U4.shown s = R at *
      go_enter Tryz.func12, Tryz.ntmps12
      go_wp2_with fail
      refine HM.out.mono ?_
      rintro e w1 ⟨rfl, b1⟩
      obtain ⟨z0, z1, z2⟩ := HV.out _ b1
      have T1 := Lib.hid (HT.out.below b1)
      have b2 := Below_in b1
      clear b1
      go_wp2_with fail
      refine (HD.out _ T1.out.2).mono ?_
      rintro e w2 ⟨rfl, b3⟩
      go_wp2
      go_ret2
      exact ⟨rfl, b2.trans (b3.mono b2.size)⟩
    · have e : shV 68 0 s = hxT s s.length := rfl
      rw [e]
      clear e
      have HD := Lib.hid (fun w1 => digits_walk s (by omega) w1)
      generalize hxT s s.length = R at *
      go_enter Tryz.func12, Tryz.ntmps12
      go_wp2_with fail
      refine HM.out.mono ?_
      rintro e w1 ⟨rfl, b1⟩
      obtain ⟨z0, z1, z2⟩ := HV.out _ b1
      have T1 := Lib.hid (HT.out.below b1)
      have b2 := Below_in b1
      clear b1
      go_wp2_with fail
      refine (HD.out _).mono ?_
      rintro e w2 ⟨rfl, b3⟩
      go_wp2
      go_ret2
      exact ⟨rfl, b2.trans (b3.mono b2.size)⟩
  | null hk hn hs =>
    subst hk hn hs
    have e : shV 5 0 [] = [] := rfl
    rw [e]
    clear e
    go_enter Tryz.func12, Tryz.ntmps12
    go_wp2_with fail
    refine HM.out.mono ?_
    rintro e w1 ⟨rfl, b1⟩
    obtain ⟨z0, z1, z2⟩ := HV.out _ b1
    have T1 := Lib.hid (HT.out.below b1)
    have b2 := Below_in b1
    clear b1
    go_wp2
    go_ret2
    exact ⟨rfl, b2⟩
  | oid hk hn l hl hs =>
    subst hk hn
    have e : shV 6 0 s = s := rfl
    rw [e]
    clear e hl hs
    go_enter Tryz.func12, Tryz.ntmps12
    go_wp2_with fail
    refine HM.out.mono ?_
    rintro e w1 ⟨rfl, b1⟩
    obtain ⟨z0, z1, z2⟩ := HV.out _ b1
    have T1 := Lib.hid (HT.out.below b1)
    have b2 := Below_in b1
    clear b1
    go_wp2
    go_ret2
    exact ⟨rfl, b2⟩
  | addr hk hn hs =>
    subst hk hn
    have e : shV 64 0 s = adT s 4 := rfl
    rw [e]
    clear e
    have HD := Lib.hid (fun w1 (h : Tabs w1) => numbers_walk s hs w1 h)
    generalize adT s 4 = R at *
    go_enter Tryz.func12, Tryz.ntmps12
    go_wp2_with fail
    refine HM.out.mono ?_
    rintro e w1 ⟨rfl, b1⟩
    obtain ⟨z0, z1, z2⟩ := HV.out _ b1
    have T1 := Lib.hid (HT.out.below b1)
    have b2 := Below_in b1
    clear b1
    go_wp2_with fail
    refine (HD.out _ T1.out.1).mono ?_
    rintro e w2 ⟨rfl, b3⟩
    go_wp2
    go_ret2
    exact ⟨rfl, b2.trans (b3.mono b2.size)⟩
  | count hk hs h0 h1 =>
    subst hs
    have e : shV k n [] = O6.nm (V7.uu n) := by unfold shV; rw [if_neg (by omega), if_pos (by omega)]
    rw [e]
    have HD := Lib.hid (fun w1 (h : Tabs w1) => formatUint_walk (V7.uu n) (V7.uu_lt _) w1 h)
    have hu := u64_wrap n
    generalize ((V7.uu n : Nat) : Int) = U at *
    generalize O6.nm (V7.uu n) = R at *
    clear e
    rcases hk with rfl | rfl | rfl
    all_goals
      go_enter Tryz.func12, Tryz.ntmps12
      go_wp2_with fail
      refine HM.out.mono ?_
      rintro e w1 ⟨rfl, b1⟩
      obtain ⟨z0, z1, z2⟩ := HV.out _ b1
      have T1 := Lib.hid (HT.out.below b1)
      have b2 := Below_in b1
      clear b1
      go_wp2_with fail
      refine (HD.out _ T1.out.1).mono ?_
      rintro e w2 ⟨rfl, b3⟩
      go_wp2
      go_ret2
      exact ⟨rfl, b2.trans (b3.mono b2.size)⟩
  | big hk hs =>
    subst hk hs
    have e : shV 70 n [] = O6.nm (V7.uu n) := rfl
    rw [e]
    have HD := Lib.hid (fun w1 (h : Tabs w1) => formatUint_walk (V7.uu n) (V7.uu_lt _) w1 h)
    have hu := u64_wrap n
    generalize ((V7.uu n : Nat) : Int) = U at *
    generalize O6.nm (V7.uu n) = R at *
    clear e
    go_enter Tryz.func12, Tryz.ntmps12
    go_wp2_with fail
    refine HM.out.mono ?_
    rintro e w1 ⟨rfl, b1⟩
    obtain ⟨z0, z1, z2⟩ := HV.out _ b1
    have T1 := Lib.hid (HT.out.below b1)
    have b2 := Below_in b1
    clear b1
    go_wp2_with fail
    refine (HD.out _ T1.out.1).mono ?_
    rintro e w2 ⟨rfl, b3⟩
    go_wp2
    go_ret2
    exact ⟨rfl, b2.trans (b3.mono b2.size)⟩
theorem big_walk (n : Nat) (hn : n < 18446744073709551616) (w : World) :
    Calls Tryz.prog 18 #[.int .u64 (n : Nat)] w fun e w' => e = .returned (.agg #[.int .i64 70, .int .i64 (wrap64 (n : Nat)), .string (bs [])]) ∧ Below w.heap.size w w' := by
  have hwr : IntKind.i64.wrap ((n : Nat) : Int) = wrap64 (n : Nat) := by rw [IntKind.wrap_i64, wrap64_eq]
  generalize wrap64 ((n : Nat) : Int) = z at *
  go_enter Tryz.func18, Tryz.ntmps18
  go_wp2
  refine bodyPost_ret (results_cell_row rfl _ _ w.heap.size _ _ _ _ rfl (Vw.new w 70 z []) Tryz.underlying24 rfl (by kernel_rfl)) rfl ?_
  exact ⟨rfl, alloc_in _ _⟩
theorem val_ok : ValOk3 Tv where
  keep := fun _ _ h k => h.below k
  check := fun k n s w hs h => check_walk7 k n s hs w h.1
  encode := fun k n s w hs n0 n1 h => encode_walk7 k n s hs n0 n1 w h.1
  decode := fun k b w hb h => decode_walk7 k b hb w h.1
  shows := fun k n s w hs hl n0 n1 h => by
    cases hc : V7.ckV k n s
    · exact show_no k n s hl hc w h
    · exact show_yes k n s (by omega) n0 n1 hc w h
  big := fun n w hn h => big_walk n hn w
  next := fun s w hs h => next_walk s hs w
  unsigned := fun l w hl h => unsigned_walk l hl w
  canon := fun l w hl h => canon_walk l (by omega) w
end Go.Proofs.YtkmfcnilbmckmaaGreatDoor
/- What the library's variables hold, as the rows list them. -/
namespace Go.Proofs.YtkmfcnilbmckmaaGreatDoor
open Go.ChangeShapes Go.WideShapes Go.ChangeAt Go.RowKit K O6
set_option linter.unusedVariables false

theorem starE : "*" ++ "errors.errorString" = "*errors.errorString" := by decide
theorem rowE (u : TypeId) (h : Tryz.prog.typeName? 3 u = some "*errors.errorString") : u = 148 :=
  typeName_ptr_named (nm := "errors.errorString") (by rw [starE]; kernel_rfl) (by kernel_rfl) (by decide) u (by rw [starE]; exact h)
theorem pow_data : (Rows.laid_internal_strconv_uint64pow10 : DataW Unit) = Lib.tabData .u64 Lib.pow10Tab := rfl
/-- One of a row's errors. -/
theorem errOf {W : World} {n : String} {text : List UInt8} {r : List (String × DataW Unit)} {g : Nat} (h : laidMet Tryz.prog ((n, .iface "*errors.errorString" (.ptr (.agg [.lit (.string text)]))) :: r) W)
    (hg : Tryz.prog.globalNamed n = some g) (ht : (Tryz.prog.globals[g]?).map (·.type) = some 79) : ∃ te pe, W.cell? ⟨g, 0, none⟩ = some (.iface te pe) := by
  obtain ⟨a0, s0, hv0, -, -, -⟩ := laid_sentinel h hg ht Tryz.underlying79 rowE Tryz.underlying148 Tryz.underlying150 rfl rfl Tryz.underlying9 (by kernel_rfl) (by kernel_rfl)
  exact ⟨_, _, by have h0 := World.var?_cell hg hv0 0; simpa using h0⟩
theorem leads_data : (Rows.laid_gong_utf_leads : DataW Unit) = Lib.tabData .u8 ((List.range 4).map fun k => ((U4.ld (k + 1) : Nat) : Int)) := rfl
theorem leadsOf {W : World} {L : List (String × DataW Unit)} (h : laidMetH Tryz.prog L W) (hp : (L.all fun x => x.2.handleName?.isNone) = true) (hm : ("gong/utf.leads", Rows.laid_gong_utf_leads) ∈ L) : Leads W := by
  rw [leads_data] at hm
  have hT := laid_tab h hp hm (by kernel_rfl : Tryz.prog.globalNamed "gong/utf.leads" = some 0) (by kernel_rfl) Tryz.underlying104 Tryz.underlying5 (by kernel_rfl) (by kernel_rfl)
  intro k hk
  have hc := hT.cell (by kernel_rfl : Tryz.prog.globalNamed "gong/utf.leads" = some 0) k (by simpa using hk)
  rw [hc]
  simp [List.getD, hk]
theorem tabsOf {W : World} (h : laidMetH Tryz.prog [("math/bits.deBruijn32tab", Rows.laid_math_bits_deBruijn32tab), ("math/bits.deBruijn64tab", Rows.laid_math_bits_deBruijn64tab), ("internal/strconv.uint64pow10", Rows.laid_internal_strconv_uint64pow10), ("unicode/utf8.acceptRanges", Rows.laid_unicode_utf8_acceptRanges), ("strconv.ErrRange", Rows.laid_strconv_ErrRange), ("strconv.ErrSyntax", Rows.laid_strconv_ErrSyntax), ("gong/utf.leads", Rows.laid_gong_utf_leads), ("unicode/utf8.first", Rows.laid_unicode_utf8_first)] W) (hS : W.ShapedOpen Tryz.prog) : Tv W := by
  have hm : laidMet Tryz.prog [("math/bits.deBruijn32tab", Rows.laid_math_bits_deBruijn32tab), ("math/bits.deBruijn64tab", Rows.laid_math_bits_deBruijn64tab), ("internal/strconv.uint64pow10", Rows.laid_internal_strconv_uint64pow10), ("unicode/utf8.acceptRanges", Rows.laid_unicode_utf8_acceptRanges), ("strconv.ErrRange", Rows.laid_strconv_ErrRange), ("strconv.ErrSyntax", Rows.laid_strconv_ErrSyntax), ("gong/utf.leads", Rows.laid_gong_utf_leads), ("unicode/utf8.first", Rows.laid_unicode_utf8_first)] W := by
    have h2 := h
    rw [MakeChecks.laidMetH_plain _ _ _ (by kernel_rfl)] at h2
    exact h2
  have h5 := hm.tail.tail.tail.tail
  refine ⟨⟨Tryz.laysM147.s1_3 W hS, errOf h5.tail (by kernel_rfl) (by kernel_rfl), errOf h5 (by kernel_rfl) (by kernel_rfl), ?_⟩, leadsOf h (by kernel_rfl) (List.Mem.tail _ (List.Mem.tail _ (List.Mem.tail _ (List.Mem.tail _ (List.Mem.tail _ (List.Mem.tail _ (List.Mem.head _)))))))⟩
  exact laid_tab (zs := Lib.pow10Tab) h (by kernel_rfl) (by rw [← pow_data]; exact (List.Mem.tail _ (List.Mem.tail _ (List.Mem.head _)))) (by kernel_rfl : Tryz.prog.globalNamed "internal/strconv.uint64pow10" = some 1) (by kernel_rfl : (Tryz.prog.globals[1]?).map (·.type) = some 115) Tryz.underlying115 Tryz.underlying40 (by kernel_rfl) (by kernel_rfl)
end Go.Proofs.YtkmfcnilbmckmaaGreatDoor
/- An array among the arguments, and a slice that is nil or not: what the reading gives. Of no program. -/
namespace Go.Proofs.YtkmfcnilbmckmaaGreatDoor
open Go.RowKit
namespace K
set_option linter.unusedVariables false
section
variable {P : Program} {w : World} {t e : TypeId} {cs : List Value}
theorem okWide_agg {n : Nat} {r : Reach} {base : Nat} {v : Value} (ht : P.underlying t = some (.array n e)) (h : Value.okWide P w r base t v) : ∃ xs : Array Value, v = .agg xs ∧ xs.size = P.cellsOf t := by
  unfold Value.okWide at h
  rw [ht] at h
  obtain ⟨xs, h1, h2, _⟩ := h
  exact ⟨xs, h1, h2⟩
theorem Rdg.array {n : Nat} (h : Rdg P w t cs) (ht : P.underlying t = some (.array n e)) :
    cs.length = P.cellsOf t ∧ ∀ i, i < n → Rdg P w e ((cs.drop (i * P.cellsOf e)).take (P.cellsOf e)) := by
  obtain ⟨H, enc, fuel, x, hx, hw⟩ := h
  obtain ⟨xs, m, _, hxx, hl, hn, hf⟩ := DataW.trod_array ht hx
  refine ⟨hl, fun i hi => ?_⟩
  have h1 := hf i hi
  have hil : i < xs.length := by omega
  rw [List.getElem?_eq_getElem hil] at h1
  refine ⟨H, enc, m, _, h1, fun q hq => hw q ?_⟩
  subst hxx
  simp only [DataW.weights, ht]
  have hrep : ∀ (ds : List (DataW H)) (i : Nat) (d : DataW H), ds[i]? = some d → ∀ q ∈ d.weights P e, q ∈ DataW.weightsAll P e ds := by
    intro ds
    induction ds with
    | nil => intro i d h; simp at h
    | cons a ds ih =>
      intro i d h q hq
      cases i with
      | zero => simp at h; subst h; simp [DataW.weightsAll, hq]
      | succ i => simp at h; simp [DataW.weightsAll, ih i d h q hq]
  exact hrep _ i _ (by simp [List.getElem?_eq_getElem hil]) q hq
/-- Two texts. -/
theorem Rdg.strs2 {x y : Value} (h : Rdg P w t [x, y]) (ht : P.underlying t = some (.array 2 e)) (he : P.underlying e = some .string) (hC : P.cellsOf e = 1) :
    ∃ a b : List UInt8, x = .string (bs a) ∧ y = .string (bs b) ∧ a.length ≤ reachBytes ∧ b.length ≤ reachBytes := by
  obtain ⟨_, hf⟩ := h.array ht
  rw [hC] at hf
  obtain ⟨a, ea, la⟩ := (show Rdg P w e [x] from hf 0 (by omega)).string he
  obtain ⟨b, eb, lb⟩ := (show Rdg P w e [y] from hf 1 (by omega)).string he
  simp at ea eb
  exact ⟨a, b, ea, eb, la, lb⟩
/-- A slice is nil, or has a place. -/
theorem Rdg.shape {ao : Option Addr} {len cap : Nat} (h : Rdg P w t [.slice ao len cap]) (ht : P.underlying t = some (.slice e)) : (ao = none ∧ len = 0 ∧ cap = 0) ∨ ∃ a, ao = some a := by
  obtain ⟨H, enc, fuel, x, hx, hw⟩ := h
  rcases Deep.open_slice ht hx with ⟨h1, _⟩ | ⟨a, len', cap', m, n, D, Pl, hcs, _⟩
  · simp at h1; exact .inl h1
  · simp at hcs; exact .inr ⟨a, hcs.1⟩
end
end K
end Go.Proofs.YtkmfcnilbmckmaaGreatDoor
/- A value among the arguments: what the reading gives. -/
namespace Go.Proofs.YtkmfcnilbmckmaaGreatDoor
open Go.RowKit K P1
set_option linter.unusedVariables false
theorem wf_i7 {t : Int} (wt : (Lit.int .i64 t).wf = true) : -9223372036854775808 ≤ t ∧ t ≤ 9223372036854775807 := by
  simp [Lit.wf, IntKind.min, IntKind.max, IntKind.bits, IntKind.signed] at wt; omega
theorem wf_u64 {t : Int} (wt : (Lit.int .u64 t).wf = true) : ∃ n : Nat, t = (n : Nat) ∧ n < 18446744073709551616 := by
  have h : 0 ≤ t ∧ t ≤ 18446744073709551615 := by
    simp [Lit.wf, IntKind.min, IntKind.max, IntKind.bits, IntKind.signed] at wt; omega
  exact ⟨t.toNat, by omega, by omega⟩
theorem okWide_struct {P : Program} {w : World} {t : TypeId} {fs : Array Field} {r : Reach} {base : Nat} {v : Value} (ht : P.underlying t = some (.struct fs)) (h : Value.okWide P w r base t v) : ∃ xs : Array Value, v = .agg xs ∧ xs.size = P.cellsOf t := by
  unfold Value.okWide at h
  rw [ht] at h
  obtain ⟨xs, h1, h2, _⟩ := h
  exact ⟨xs, h1, h2⟩
set_option maxRecDepth 1000000 in
/-- A value of api: its kind, its number, its text. -/
theorem argV {w : World} {B : Nat} {v : Value} (g : Rdg Tryz.prog w 24 v.cells.toList) (ok : Value.okWide Tryz.prog w .any B 24 v) :
    ∃ (k n : Int) (s : List UInt8), v = .agg #[.int .i64 k, .int .i64 n, .string (bs s)] ∧ s.length ≤ reachBytes ∧ -9223372036854775808 ≤ n ∧ n ≤ 9223372036854775807 := by
  obtain ⟨xs, rfl, hsz⟩ := okWide_struct Tryz.underlying24 ok
  rw [show Tryz.prog.cellsOf 24 = 3 by kernel_rfl] at hsz
  obtain ⟨x, y, z, rfl⟩ : ∃ x y z, xs = #[x, y, z] := by
    obtain ⟨l⟩ := xs
    match l, hsz with
    | [x, y, z], _ => exact ⟨x, y, z, rfl⟩
  obtain ⟨_, hf⟩ := Rdg.fields (cs := [x, y, z]) g Tryz.underlying24 (by kernel_rfl)
  obtain ⟨u0, e0, r0⟩ := hf 0 3 (by kernel_rfl) (by simp)
  obtain ⟨u1, e1, r1⟩ := hf 1 3 (by kernel_rfl) (by simp)
  obtain ⟨u2, e2, r2⟩ := hf 2 9 (by kernel_rfl) (by simp)
  obtain ⟨k, ek, wk⟩ := r0.int Tryz.underlying3
  obtain ⟨n, en, wn⟩ := r1.int Tryz.underlying3
  obtain ⟨s, es, ls⟩ := r2.string Tryz.underlying9
  simp at e0 e1 e2 ek en es
  have hb := wf_i7 wn
  exact ⟨k, n, s, by rw [e0, e1, e2, ek, en, es], ls, hb.1, hb.2⟩
end Go.Proofs.YtkmfcnilbmckmaaGreatDoor
/- The laws of values, walked on calls that keep their word: ValueWrites. -/
namespace Go.Proofs.YtkmfcnilbmckmaaGreatDoor
open Go.ChangeShapes Go.WideShapes Go.ChangeAt Go.RowKit K P1 B5
set_option linter.unusedVariables false

set_option maxRecDepth 100000 in
set_option maxHeartbeats 2000000 in
theorem valueWrites_walk (I : World → Prop) (K : ValOk I) (k n : Int) (s : List UInt8) (hs : s.length ≤ 140737488351232) (n0 : -9223372036854775808 ≤ n) (n1 : n ≤ 9223372036854775807) (w : World) (hw : I w) :
    Calls Tryz.prog 4 #[.agg #[.int .i64 k, .int .i64 n, .string (bs s)]] w fun e w' => e = .returned (.bool true) ∧ Below w.heap.size w w' := by
  have HW := Lib.hid (fun w1 (h : I w1) => K.works w1 h)
  have HK := Lib.hid K.keep
  have hv := Vr.new w k n s
  have bw := alloc_in w (.cells #[.int .i64 k, .int .i64 n, .string (bs s)] 24)
  have iw := HK.out _ _ hw bw
  have hways : ((3000 : Int) < ((s.length : Nat) : Int) ∧ ((s.length : Nat) : Int) ≤ 65535) ∨ (((3000 : Int) < ((s.length : Nat) : Int) ∧ (65535 : Int) < ((s.length : Nat) : Int)) ∧ (131072 : Int) < ((s.length : Nat) : Int)) ∨
      (((s.length : Nat) : Int) ≤ 3000) ∨ (((3000 : Int) < ((s.length : Nat) : Int) ∧ (65535 : Int) < ((s.length : Nat) : Int)) ∧ ((s.length : Nat) : Int) ≤ 131072) := by omega
  rcases hways with ⟨h1, h2⟩ | ⟨⟨h1, h2⟩, h3⟩ | hlen
  · clear K
    go_enter Tryz.func4, Tryz.ntmps4
    go_wp2_with fail
    refine (HW.out _ iw).mono ?_
    rintro e w1 ⟨rfl, b1⟩
    go_wp2
    go_ret
    exact ⟨rfl, Below_in b1⟩
  · clear K
    go_enter Tryz.func4, Tryz.ntmps4
    go_wp2_with fail
    refine (HW.out _ iw).mono ?_
    rintro e w1 ⟨rfl, b1⟩
    go_wp2
    go_ret
    exact ⟨rfl, Below_in b1⟩
  · have hsz : s.length ≤ 3000 ∨ 65535 < s.length := by omega
    have HE := Lib.hid (fun w1 (h : I w1) => K.encode k n s w1 (by omega) n0 n1 h)
    have HEq := Lib.hid (fun w1 => qencode7_walk k n s hs n0 n1 w1)
    have HS := Lib.hid (fun w1 (h : I w1) => K.shows k n s w1 hsz (by omega) n0 n1 h)
    have hq : ∀ w1, Calls Tryz.prog 13 #[.agg #[.int .i64 k, .int .i64 n, .string (bs s)]] w1 fun e w' => e = .returned (.tuple #[.string (bs (shT k n s)), .int .i64 (V7.ckE k n s : Nat)]) ∧ Below w1.heap.size w1 w' := by
      intro w1
      cases hc : V7.ckV k n s
      · exact qshow_no k n s hs hc w1
      · exact qshow_yes k n s (by omega) n0 n1 hc w1
    have HSq := Lib.hid hq
    have HC := Lib.hid (fun w1 (h : I w1) => K.check k n s w1 (by omega) h)
    have HCq := Lib.hid (fun w1 => qcheck_walk k n s hs w1)
    clear K hq hsz
    generalize V7.enT k n s = A at *
    generalize shT k n s = C at *
    generalize V7.ckE k n s = E at *
    rcases hlen with h1 | ⟨⟨h1, h2⟩, h3⟩
    all_goals
      go_enter Tryz.func4, Tryz.ntmps4
      go_wp2_with fail
      generalize w.alloc (.cells #[.int .i64 k, .int .i64 n, .string (bs s)] 24) = w0 at *
      refine (HE.out _ iw).mono ?_
      rintro e w1 ⟨rfl, d1⟩
      have i1 := HK.out _ _ iw d1
      have v1 := hv.below d1
      have b1 := bw.trans (d1.mono bw.size)
      obtain ⟨z0, z1, z2⟩ := v1
      clear d1
      go_wp2_with fail
      refine (HEq.out _).mono ?_
      rintro e w2 ⟨rfl, d1⟩
      have i2 := HK.out _ _ i1 d1
      have v2 := Vr.below ⟨z0, z1, z2⟩ d1
      have b2 := b1.trans (d1.mono b1.size)
      clear z0 z1 z2 d1 i1 b1
      obtain ⟨z0, z1, z2⟩ := v2
      go_wp2_with fail
      refine (HS.out _ i2).mono ?_
      rintro e w3 ⟨rfl, d1⟩
      have i3 := HK.out _ _ i2 d1
      have v3 := Vr.below ⟨z0, z1, z2⟩ d1
      have b3 := b2.trans (d1.mono b2.size)
      clear z0 z1 z2 d1 i2 b2
      obtain ⟨z0, z1, z2⟩ := v3
      go_wp2_with fail
      refine (HSq.out _).mono ?_
      rintro e w4 ⟨rfl, d1⟩
      have i4 := HK.out _ _ i3 d1
      have v4 := Vr.below ⟨z0, z1, z2⟩ d1
      have b4 := b3.trans (d1.mono b3.size)
      clear z0 z1 z2 d1 i3 b3
      obtain ⟨z0, z1, z2⟩ := v4
      have s0 := And.intro z0 (And.intro z1 z2)
      go_wp2_with fail
      go_region_held3 (fun x => x.cell? ⟨w.heap.size, 0, none⟩ = some (.int .i64 k) ∧ x.cell? ⟨w.heap.size, 1, none⟩ = some (.int .i64 n) ∧ x.cell? ⟨w.heap.size, 2, none⟩ = some (.string (bs s))) (first | exact s0 | exact s1 | exact s2 | exact s3)
        (first
          | (go_at_call 14; refine (HC.out _ (by first | exact i4 | exact HK.out _ _ i4 (Below_drewNa (Below.refl _ _) _) | exact HK.out _ _ i4 (Below_drewNa (Below.refl _ _) 1))).mono ?_; rintro e x1 ⟨rfl, k1⟩; have k1' : Below w4.heap.size w4 x1 := ⟨k1.os, k1.tape, k1.output, k1.size, k1.block⟩; have b5 := b4.trans (k1'.mono b4.size); have i5 := HK.out _ _ i4 k1'; have s1 := Vr.below (x := w4) (y := x1) s0 k1')
          | (go_at_call 15; refine (HCq.out _).mono ?_; rintro e x2 ⟨rfl, k2⟩; have k2' : Below x1.heap.size x1 x2 := ⟨k2.os, k2.tape, k2.output, k2.size, k2.block⟩; have b6 := b5.trans (k2'.mono b5.size); have i6 := HK.out _ _ i5 k2'; have s2 := Vr.below (x := x1) (y := x2) s1 k2')
          | (go_at_call 7; refine (HW.out _ (by first | exact i6 | exact HK.out _ _ i6 (Below_drewNa (Below.refl _ _) _) | exact HK.out _ _ i6 (Below_drewNa (Below.refl _ _) 1))).mono ?_; rintro e x3 ⟨rfl, k3⟩; have k3' : Below x2.heap.size x2 x3 := ⟨k3.os, k3.tape, k3.output, k3.size, k3.block⟩; have b7 := b6.trans (k3'.mono b6.size); have s3 := Vr.below (x := x2) (y := x3) s2 k3'))
      go_wp2
      go_ret
      exact ⟨rfl, b7⟩
end Go.Proofs.YtkmfcnilbmckmaaGreatDoor
