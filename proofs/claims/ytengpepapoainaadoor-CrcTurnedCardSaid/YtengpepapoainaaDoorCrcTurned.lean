/- Bytes with their sum are opened as they were; with bits turned, all of them within 32 that follow one another, they are not opened: gonglaw02.CrcTurned answers true at every input, and its arguments read as before. Its card ties the package's table of sixteen numbers to the program's text. No other condition. -/
import Derived.Test.YtengpepapoainaaDoorCrcC
import Derived.Test.YtengpepapoainaaDoorCrcW
import Derived.Test.YtengpepapoainaaDoorBook
namespace Go.Proofs.YtengpepapoainaaDoor
open Go.ChangeShapes Go.WideShapes Go.ChangeAt Go.RowKit K C2
open Go.ChangeMaps (open_string shut_string)
set_option linter.unusedVariables false

/-! ### A slice's bytes in a block that '[]byte(s)' has made -/
def Row8 (w : World) (B : Nat) (q : List UInt8) : Prop :=
  ∃ C : Array Value, w.heap[B]? = some (.cells C 5 (C.size, C.size + 1)) ∧ q.length ≤ C.size ∧ ∀ j, j < q.length → C[j]? = some (.int .u8 (byt q j : Nat))
theorem Row8.cell {w : World} {B : Nat} {q : List UInt8} (h : Row8 w B q) (j : Nat) (hj : j < q.length) : w.cell? ⟨B, j, none⟩ = some (.int .u8 (byt q j : Nat)) := by
  obtain ⟨C, h1, _, h3⟩ := h
  rw [← h3 j hj]
  simp [World.cell?, h1]
theorem Row8.free {w : World} {B : Nat} {q : List UInt8} (h : Row8 w B q) (j : Nat) (hj : j < q.length) : w.frozen? ⟨B, j, none⟩ = false := by
  obtain ⟨C, h1, h2, _⟩ := h
  simp [World.frozen?, h1]
  omega
theorem Row8.set {w : World} {B : Nat} {q : List UInt8} (h : Row8 w B q) (j : Nat) (hj : j < q.length) (b : UInt8) : Row8 (w.setCell ⟨B, j, none⟩ (.int .u8 (b.toNat : Nat))) B (q.set j b) := by
  obtain ⟨C, h1, h2, h3⟩ := h
  refine ⟨C.setIfInBounds j (.int .u8 (b.toNat : Nat)), ?_, by simpa using h2, ?_⟩
  · simp only [World.setCell, Array.getElem?_modify, if_true, h1]
    simp
  · intro i hi
    rw [List.length_set] at hi
    rw [Array.getElem?_setIfInBounds]
    by_cases hij : j = i
    · subst hij
      rw [if_pos rfl, if_pos (by omega)]
      simp [byt, hj]
    · rw [if_neg hij, h3 i hi]
      simp [byt, hij]
theorem Row8.conv {P : Program} {w : World} {B : Nat} {q : List UInt8} (h : Row8 w B q) (src e dst : TypeId) (hs : P.underlying src = some (.slice e)) (he : P.underlying e = some (.int .u8)) (hd : P.underlying dst = some .string) (len cap : Nat) (hl : q.length = len) :
    (convert src dst (.slice (some ⟨B, 0, none⟩) len cap)).run P w = .ok (.string (bs q)) w := by
  rw [run_convert_bytes_arg (P := P) w src e hs he B 0 len cap (q.map (fun b => (b.toNat : Int))) (by simp [hl]) _ dst hd, strOf_bs]
  intro i hi
  rw [Nat.zero_add, h.cell i (by omega)]
  simp [byt, List.getD, hl, hi]
theorem Row8.fresh (w : World) (l : List UInt8) : Row8 (Go.Lib.bytesWorld w 5 (bs l)) w.heap.size l := by
  refine ⟨_, Go.Lib.bytesWorld_at_new w 5 (bs l), ?_, ?_⟩
  · simp [Go.Lib.bytesCells, bs]
  · intro j hj
    simp [Go.Lib.bytesCells, Array.getElem?_append, bs, hj, byt]
theorem Row8.drewN {w : World} {B : Nat} {q : List UInt8} (h : Row8 w B q) (n : Nat) : Row8 (w.drewN n) B q := h

/-! ### What Open answers of a tagged text, and of a spoilt one -/
theorem opn_tag (l : List UInt8) : opn (l ++ le4 (C2.sum l)) = some l := by
  have h4 : (le4 (C2.sum l)).length = 4 := rfl
  unfold opn
  rw [if_neg (by simp [h4]), List.length_append, h4, Nat.add_sub_cancel, List.take_left, List.drop_left, if_pos rfl]
theorem opn_rest (q : List UInt8) (h : 4 ≤ q.length) : (F q = rest → ∃ u, opn q = some u) ∧ (F q ≠ rest → opn q = none) := by
  have ht := tagged (q.take (q.length - 4)) (q.drop (q.length - 4)) (by simp; omega)
  rw [List.take_append_drop] at ht
  unfold opn
  rw [if_neg (by omega)]
  constructor
  · intro hF
    rw [if_pos (ht.2 hF)]
    exact ⟨_, rfl⟩
  · intro hF
    rw [if_neg (fun e => hF (ht.1 e))]
theorem F_tag (l : List UInt8) : F (l ++ le4 (C2.sum l)) = rest := (tagged l (le4 (C2.sum l)) rfl).1 rfl

/-- The byte with a bit turned. -/
def flp (b : UInt8) (r : Nat) : UInt8 := b8 (b.toNat ^^^ 2 ^ r)
theorem flp_lt (b : UInt8) (r : Nat) (h : r < 8) : b.toNat ^^^ 2 ^ r < 256 := by
  have h1 := UInt8.toNat_lt b
  have h2 : 2 ^ r < 2 ^ 8 := Nat.pow_lt_pow_right (by omega) h
  exact Nat.xor_lt_two_pow (n := 8) h1 h2
theorem flp_w8 (b : UInt8) (r : Nat) (h : r < 8) : w8 (flp b r) = w8 b ^^^ (1#32 <<< r) := by
  have h2 : 2 ^ r < 2 ^ 32 := Nat.pow_lt_pow_right (by omega) (by omega)
  apply BitVec.eq_of_toNat_eq
  rw [w8_toNat, BitVec.toNat_xor, w8_toNat, flp, b8_toNat _ (flp_lt b r h), BitVec.toNat_shiftLeft, Nat.shiftLeft_eq]
  have : (1#32).toNat * 2 ^ r % 2 ^ 32 = 2 ^ r := by rw [show (1#32).toNat = 1 by decide, Nat.one_mul, Nat.mod_eq_of_lt h2]
  rw [this]
theorem flp_bits (q : List UInt8) (m r : Nat) (h : r < 8) : bits .xor .u8 (byt q m : Nat) ((2 : Int) ^ r % 256) = ((flp (at32 q m) r).toNat : Nat) := by
  have h2 : 2 ^ r < 2 ^ 8 := Nat.pow_lt_pow_right (by omega) h
  have hb := byt_lt q m
  have e2 : ((2 : Int) ^ r % 256) = ((2 ^ r : Nat) : Int) := by
    have : ((2 : Int) ^ r) = ((2 ^ r : Nat) : Int) := by simp
    rw [this]
    clear this
    generalize (2 : Nat) ^ r = z at h2 ⊢
    omega
  rw [e2]
  show IntKind.u8.wrap ((BitVec.ofInt 8 (byt q m : Nat) ^^^ BitVec.ofInt 8 ((2 ^ r : Nat) : Int)).toNat : Int) = _
  rw [BitVec.toNat_xor, BitVec.ofInt_natCast, BitVec.ofInt_natCast, BitVec.toNat_ofNat, BitVec.toNat_ofNat, Nat.mod_eq_of_lt hb, Nat.mod_eq_of_lt h2]
  have hlt := flp_lt (at32 q m) r h
  rw [flp, b8_toNat _ hlt, byt_at, IntKind.wrap_u8]
  omega

theorem bit_test (c : BitVec 32) (i : Nat) : (bits .and .u32 (uu c / (2 : Int) ^ i) 1 == 1) = c.getLsbD i := by
  have e1 : (1 : Int) = uu 1#32 := rfl
  have e2 : uu c / (2 : Int) ^ i = uu (c >>> i) := by rw [← uu_shr i]; simp
  have e3 : bits .and .u32 (uu (c >>> i)) 1 = uu (c >>> i &&& 1#32) := by
    show IntKind.u32.wrap ((BitVec.ofInt 32 (uu (c >>> i)) &&& BitVec.ofInt 32 1).toNat : Int) = _
    rw [ofInt_uu, wrap_u32]
    have h1 : BitVec.ofInt 32 1 = 1#32 := by decide
    rw [h1]
    have := (c >>> i &&& 1#32).isLt
    unfold uu; omega
  have e4 : (c >>> i &&& 1#32) = if c.getLsbD i then 1#32 else 0#32 := by
    apply BitVec.eq_of_getLsbD_eq
    intro j hj
    rw [BitVec.getLsbD_and, BitVec.getLsbD_ushiftRight]
    rcases j with _ | j
    · rw [Nat.add_zero]
      cases c.getLsbD i <;> simp
    · cases c.getLsbD i <;> simp
  rw [e2, e3, e4]
  cases c.getLsbD i <;> rfl

theorem crcTurned_big (l : List UInt8) (n : Int) (c : BitVec 32) (h : 2000 < l.length) (h2 : l.length ≤ 140737488351232) (w : World) (ht : Halves w) :
    Calls Tryd.prog 5 #[.string (bs l), .int .i64 n, .int .u32 (uu c)] w fun e w' => e = .returned (.bool true) ∧ Below w.heap.size w w' := by
  go_enter Tryd.func5, Tryd.ntmps5
  go_wp2_with fail
  refine (works_walk w ht).mono ?_
  rintro e w5 ⟨rfl, rfl⟩
  go_wp2
  go_ret
  exact ⟨rfl, Below.refl _ _⟩

/-- The relation of the loop that turns bits. -/
def URel (w : World) (B : Nat) (R : BitVec 32) (len k : Nat) (c : BitVec 32) (vi : Value) (wr : World) : Prop :=
  ∃ (i : Nat) (q : List UInt8), i ≤ 32 ∧ vi = .int .i64 i ∧ q.length = len ∧ Row8 wr B q ∧ F q = R ^^^ Tn (8 * len - k) (lo i c) ∧ Below w.heap.size w wr

set_option maxRecDepth 100000 in
set_option maxHeartbeats 2000000 in
theorem crcTurned_small (l : List UInt8) (n : Int) (c : BitVec 32) (h0 : -9223372036854775808 ≤ n) (h1 : n ≤ 9223372036854775807) (h : l.length ≤ 2000) (w : World) (ht : Halves w) :
    Calls Tryd.prog 5 #[.string (bs l), .int .i64 n, .int .u32 (uu c)] w fun e w' => e = .returned (.bool true) ∧ Below w.heap.size w w' := by
  have hc := uu_bounds c
  have hT := Tag_walk l (by omega) w ht
  have htl : (l ++ le4 (C2.sum l)).length = l.length + 4 := by simp [le4]
  have hF := F_tag l
  have hO := open_walk (l ++ le4 (C2.sum l)) (by rw [htl]; omega)
  rw [opn_tag] at hO
  generalize l ++ le4 (C2.sum l) = t at *
  obtain ⟨k, hk, hkb⟩ : ∃ k : Nat, belowN n (8 * ((l.length : Int) + 4) - 31) = (k : Int) ∧ k + 32 ≤ 8 * (l.length + 4) := by
    have hb := belowN_bounds n (8 * ((l.length : Int) + 4) - 31) (by omega)
    exact ⟨(belowN n (8 * ((l.length : Int) + 4) - 31)).toNat, by omega, by omega⟩
  have hB := below_walk n (8 * ((l.length : Int) + 4) - 31) h0 h1 (by omega) (by omega)
  rw [hk] at hB
  have hself : (l == l) = true := by simp
  have hlen : (((t.length : Nat) : Int) != ((l.length : Nat) : Int) + 4) = false := by rw [bne_eq_false_iff_eq]; omega
  have HT := Lib.hid hT; have HO := Lib.hid hO; have HB := Lib.hid hB; have HF := Lib.hid hF
  clear hT hO hB hF hk
  go_enter Tryd.func5, Tryd.ntmps5
  go_wp2_with fail
  refine (works_walk w ht).mono ?_
  rintro e w5 ⟨rfl, rfl⟩
  go_wp2_with fail
  refine HT.out.mono ?_
  rintro e w1 ⟨rfl, b1⟩
  have ht1 := ht.below b1
  go_wp2_with fail
  refine (HO.out w1 ht1).mono ?_
  rintro e w2 ⟨rfl, b2⟩
  have ht2 := ht1.below b2
  have hcv := Lib.run_convert_string_bytes (P := Tryd.prog) w2 9 34 5 (bs t) Tryd.underlying9 Tryd.underlying34 Tryd.underlying5
  have hrow := Row8.fresh w2 t
  have hkp : Below w2.heap.size w2 (Lib.bytesWorld w2 5 (bs t)) := (Kp.bytes (Kp.refl [] w2) 5 (bs t)).below (Nat.le_refl _) (by simp)
  have b3 := Below_tr (Below_tr b1 b2) hkp
  have hbs : w.heap.size ≤ w2.heap.size := (Below_tr b1 b2).size
  clear hkp b1 b2 ht1 ht2
  unfold opV
  have HR := Lib.hid hrow; have HB3 := Lib.hid b3; have HBS := Lib.hid hbs
  clear hrow b3 hbs
  go_wp2_with fail
  generalize Lib.bytesWorld w2 5 (bs t) = wb at HR HB3 ⊢
  generalize grownCap w2 (l.length + 4) 0 5 = cap
  generalize w2.heap.size = B at HR HBS ⊢
  clear hcv
  refine (HB.out wb).mono ?_
  rintro e w5 ⟨rfl, rfl⟩
  clear HB HT HO
  go_wp2_with fail
  go_loopw [47] (fun v47 wr => URel w B rest (l.length + 4) k c v47 wr) (fun v47 wr => 32 - (intOf v47).toNat)
  case atStart =>
    refine ⟨0, t, by omega, rfl, htl, HR.out, ?_, HB3.out⟩
    rw [HF.out]
    have : lo 0 c = 0#32 := by unfold lo; simp [Nat.mod_one]
    rw [this, Tn_zero, BitVec.xor_zero]
  case round =>
    obtain ⟨i, q, hi, rfl, hq, hr, hFq, hb⟩ := hrel
    by_cases h32 : i < 32
    · have hls := lo_succ i h32 c
      have hbt := bit_test c i
      cases hci : c.getLsbD i
      · rw [hci] at hbt hls
        have HLS := Lib.hid hls; have HFQ := Lib.hid hFq
        clear hls hFq hci
        go_wp2
        go_roundw
        case measure => simp [intOf]; omega
        case rel =>
          refine ⟨i + 1, q, by omega, by simp, hq, hr, ?_, hb⟩
          rw [HFQ.out, HLS.out]; simp
      · rw [hci] at hbt hls
        obtain ⟨p, hp⟩ : ∃ p : Nat, p = k + i := ⟨_, rfl⟩
        have hps : (k : Int) + (i : Int) = (p : Int) := by omega
        have hpw : IntKind.i64.wrap ((k : Int) + (i : Int)) = (p : Int) := by rw [hps]; exact IntWalk.i64_in _ (by omega)
        have hpl : p / 8 < q.length := by omega
        have hpi : (p : Int) / 8 < ((l.length : Nat) : Int) + 4 := by omega
        have hp0 : (0 : Int) ≤ (p : Int) / 8 := by omega
        have hcell := hr.cell (p / 8) hpl
        have hfree := hr.free (p / 8) hpl
        have HLS := Lib.hid hls; have HFQ := Lib.hid hFq; have HROW := Lib.hid hr; have HPS := Lib.hid hps; have HP := Lib.hid hp
        clear hls hFq hci hr hps hp
        go_wp2_with fail
        go_region
        go_wp2
        go_roundw
        case measure => simp [intOf]; omega
        case rel =>
          have hp := HP.out
          have hr8 : p % 8 < 8 := by omega
          rw [flp_bits q (p / 8) (p % 8) hr8]
          refine ⟨i + 1, q.set (p / 8) (flp (at32 q (p / 8)) (p % 8)), by omega, by simp, by rw [List.length_set]; exact hq, HROW.out.set (p / 8) hpl _, ?_, Below_drew (hb.setCell (HBS.out) _)⟩
          have hls := HLS.out
          rw [if_pos trivial] at hls
          have hfl := F_flip q (p / 8) (p % 8) hpl hr8 (flp (at32 q (p / 8)) (p % 8)) (by rw [flp_w8 _ _ hr8, at32_get q _ hpl])
          rw [hfl, HFQ.out, hls, Tn_xor, BitVec.xor_assoc, Tn_shift _ i h32 (by omega), hq]
          congr 3
          omega
    · obtain rfl : i = 32 := by omega
      have hlo : lo 32 c = c := by
        unfold lo; rw [Nat.mod_eq_of_lt c.isLt, BitVec.ofNat_toNat]; simp
      rw [hlo] at hFq
      have hconv := hr.conv (P := Tryd.prog) 34 5 9 Tryd.underlying34 Tryd.underlying5 Tryd.underlying9 (l.length + 4) cap hq
      have hO := open_walk q (by omega) wr (ht.below hb)
      have hor := opn_rest q (by omega)
      by_cases hz : c = 0#32
      · subst hz
        rw [Tn_zero, BitVec.xor_zero] at hFq
        obtain ⟨u, hu⟩ := hor.1 hFq
        rw [hu] at hO
        have h00 : (uu 0#32 == 0) = true := by decide
        have HO2 := Lib.hid hO
        clear hO hu hor hFq hr hlo
        go_wp2_with fail
        refine HO2.out.mono ?_
        rintro e w6 ⟨rfl, b6⟩
        unfold opV
        go_wp2
        go_ret
        exact ⟨rfl, Below_tr hb b6⟩
      · have hne : F q ≠ rest := by
          intro e
          rw [e] at hFq
          have h1 := congrArg (fun z => rest ^^^ z) hFq
          simp only [BitVec.xor_self, xself] at h1
          exact hz (Tn_null _ _ h1.symm)
        rw [hor.2 hne] at hO
        have h00 : (uu c == 0) = false := by
          rw [beq_eq_false_iff_ne]; intro e; exact hz (uu_inj (e.trans rfl))
        have HO2 := Lib.hid hO
        clear hO hor hFq hr hlo hne hz
        go_wp2_with fail
        refine HO2.out.mono ?_
        rintro e w6 ⟨rfl, b6⟩
        unfold opV
        go_wp2
        go_ret
        exact ⟨rfl, Below_tr hb b6⟩

namespace crcTurned
theorem own : ownKnob Tryd.prog.godebug = none := by kernel_rfl
theorem walk (l : List UInt8) (hl : l.length ≤ reachBytes) (n : Int) (wn : (Lit.int .i64 n).wf = true) (m : Int) (wm : (Lit.int .u32 m).wf = true) (w : World) (ht : Halves w) :
    Calls Tryd.prog 5 #[.string (bs l), .int .i64 n, .int .u32 m] w fun e w' => e = .returned (.bool true) ∧ Below w.heap.size w w' := by
  have hb := bounds_i64 wn
  have hm : 0 ≤ m ∧ m ≤ 4294967295 := by
    simp [Lit.wf, IntKind.min, IntKind.max, IntKind.bits, IntKind.signed] at wm; omega
  obtain ⟨c, rfl⟩ : ∃ c, m = uu c := ⟨_, uu_of m hm.1 hm.2⟩
  by_cases h : l.length ≤ 2000
  · exact crcTurned_small l n c hb.1 hb.2 h w ht
  · exact crcTurned_big l n c (by omega) (by unfold reachBytes at hl; omega) w ht

/-! ### The row's step, over a listed table -/
theorem contract (H : Type) (enc : TypeId × Value → H) (W : World) (base : Nat) (args : Array Value) (ds gs : List (DataW H)) (before : List MemPlace)
    (hval0 : ∀ (j : Nat) t v, Tryd.f5.params[j]? = some t → args[j]? = some v → Value.okWide Tryd.prog W .any base t v)
    (hW : DataW.Whole enc Tryd.prog Tryd.f5.params.toList Rows.crcTurnedSpec.vars false W args.toList ds gs before)
    (hsz0 : (DataW.weightsEach Tryd.prog (Tryd.f5.params.toList ++ (OpenSpec.ofChange Rows.crcTurnedSpec).bare.plain.varTypes Tryd.prog) (ds ++ gs)).all (· ≤ reachBytes) = true)
    (hL : laidMetH Tryd.prog Rows.crcTurnedRow.laid W) :
    Calls Tryd.prog 5 args W fun e W' => ∃ v, e = .returned v ∧ Rows.crcTurnedSpec.post enc Tryd.prog Tryd.f5 false true false false W args v W' := by
  have hval : ∀ (j : Nat) t v, Tryd.f5.params[j]? = some t → args[j]? = some v → Value.okWide Tryd.prog W .any base t v := hval0
  have hW' := hW
  obtain ⟨p, q, hA0, hV, rfl, hfz, hnd⟩ := hW
  have hA : DataW.TrodAll enc Tryd.prog W 0 (fun _ => true) true Tryd.f5.params.toList args.toList ds p := hA0
  have hsz : (DataW.weightsEach Tryd.prog (Tryd.f5.params.toList ++ (OpenSpec.ofChange Rows.crcTurnedSpec).bare.plain.varTypes Tryd.prog) (ds ++ gs)).all (· ≤ reachBytes) = true := hsz0
  rw [Tryd.params5] at hA hval hsz
  obtain ⟨v0, vs0, d0, ds0, p0, q0, hargs, rfl, rfl, h0, r0⟩ := trodAll_cons hA
  obtain ⟨v1, vs1, d1, ds1, p1, q1, rfl, rfl, rfl, h1, r1⟩ := trodAll_cons r0
  obtain ⟨v2, vs2, d2, ds2, p2, q2, rfl, rfl, rfl, h2, r2⟩ := trodAll_cons r1
  obtain ⟨rfl, rfl, rfl⟩ := trodAll_nil r2
  obtain rfl : args = #[v0, v1, v2] := by cases args; simp_all
  obtain ⟨rfl, rfl⟩ := trodVars_none hV
  have k0 := h0
  obtain ⟨a0, rfl, rfl, rfl, w0⟩ := open_string Tryd.underlying9 (hval 0 9 v0 rfl rfl) h0
  obtain ⟨l0, e0, b0⟩ := (Rdg.of k0 hsz (j := 0) rfl rfl).string Tryd.underlying9
  obtain rfl : a0 = bs l0 := by simpa [Value.cells] using e0
  obtain ⟨a1, rfl, rfl, rfl, w1⟩ := open_int Tryd.underlying3 (hval 1 3 v1 rfl rfl) h1
  obtain ⟨a2, rfl, rfl, rfl, w2⟩ := open_int Tryd.underlying33 (hval 2 33 v2 rfl rfl) h2
  clear hA0 hval0 hsz0
  refine (walk l0 b0 a1 w1 a2 w2 W (halvesOf hL)).mono fun e W' ⟨he, bel⟩ => ?_
  subst he
  simp only [List.append_nil] at hW'
  exact ⟨_, rfl, _, _, _, [], [], [], hW', trodAll_mk1 (shut_bool Tryd.underlying4 _), (trodAll_cons_mk (shut_string Tryd.underlying9 w0) (trodAll_cons_mk (shut_int Tryd.underlying3 w1) (trodAll_cons_mk (shut_int Tryd.underlying33 w2) trodAll_mk0))), rfl, bel.frame _, fun h => by cases h⟩

theorem laid_met (os : Os) : laidMet Tryd.prog Rows.crcTurnedRow.laid ((laidWorld os).forCall (fun _ _ => 0) ⟨#[], #[.string ByteArray.empty, .int .i64 0, .int .u32 0], []⟩).memory :=
  laidMet_of_run' 8 (by kernel_rfl) (by kernel_rfl)
theorem reads (os : Os) {H : Type} (enc : TypeId × Value → H) : ∃ places, DataW.whole enc Tryd.prog ((laidWorld os).forCall (fun _ _ => 0) ⟨#[], #[.string ByteArray.empty, .int .i64 0, .int .u32 0], []⟩).memory Tryd.f5.params.toList Rows.crcTurnedSpec.vars false (#[.string ByteArray.empty, .int .i64 0, .int .u32 0] : Array Value).toList 8 = some ([.lit (.string []), .lit (.int .i64 0), .lit (.int .u32 0)], [], places) :=
  ⟨[], by kernel_rfl⟩
set_option maxRecDepth 100000 in
theorem lifted (os : Os) (started : os.Started) (H : Type) (enc : TypeId × Value → H) (F : Stop.Interp) :
    ReturnsInHanded {} Tryd.checked os 5 .any ((OpenSpec.ofChange Rows.crcTurnedSpec).preRow enc Tryd.prog Tryd.f5 Rows.crcTurnedRow.domain false Rows.crcTurnedRow.laid) (((OpenSpec.ofChange Rows.crcTurnedSpec).at F).post enc Tryd.prog Tryd.f5 false true false false) := by
  obtain ⟨places, hx⟩ := reads os enc
  refine returnsInHanded_of_row (C := Tryd.checked) (s := OpenSpec.ofChange Rows.crcTurnedSpec) own started (by kernel_rfl) Tryd.func5
    (witness_row_at (enc := enc) (C := Tryd.checked) false (laidWorld os) #[.string ByteArray.empty, .int .i64 0, .int .u32 0] rfl (by kernel_rfl) (by kernel_rfl) (by kernel_rfl)
      (OpenSpec.preRow_of_cond 8 hx (by kernel_rfl) (fun k hk => by cases hk) (by kernel_rfl) (laid_met os))) ?_
  intro W base args ds gs before hval hW _ _ hsz hL _ _
  exact contract H enc W base args ds gs before hval hW hsz hL

theorem over : Rows.crcTurnedRow.holds Tryd.pinned (OpenSpec.ofChange Rows.crcTurnedSpec) :=
  OpenClaim.holds_of_cond 5 Tryd.f5 rfl rfl rfl rfl rfl rfl rfl ⟨rfl, rfl, rfl, rfl, rfl⟩ rfl rfl rfl rfl rfl (by kernel_rfl) Tryd.func5 (by kernel_rfl)
    (of_decide_eq_true (by kernel_rfl)) (by unfold Func.isWrapper; first | (rw [if_pos (by decide +kernel)]; kernel_rfl) | (rw [if_neg (by decide +kernel)]; exact ⟨rfl, rfl⟩))
    (fun os started H enc _ F => by rw [OpenClaim.pre_eq_preRow]; exact lifted os started H enc F)

theorem plain (f : FuncId) (fn : Func) (hf : Tryd.pinned.checked.prog.funcNamed "gong/gonglaw02.CrcTurned" = some f) (hfn : Tryd.pinned.checked.prog.funcs[f]? = some fn) :
    false = Tryd.pinned.checked.prog.looks [] ∧ ∀ (j : Nat) t, fn.params[j]? = some t → Tryd.pinned.checked.prog.wantsStandIn t = false := by
  obtain rfl : f = 5 := Option.some.inj ((show Tryd.prog.funcNamed "gong/gonglaw02.CrcTurned" = some 5 by kernel_rfl).symm.trans hf) |>.symm
  obtain rfl : fn = Tryd.f5 := (Option.some.inj (Tryd.func5.symm.trans hfn)).symm
  refine ⟨by kernel_rfl, fun j t ht => ?_⟩
  have hall : (Tryd.f5.params.toList.all fun u => !Tryd.prog.wantsStandIn u) = true := by kernel_rfl
  have hm : t ∈ Tryd.f5.params.toList := by simpa using Array.mem_of_getElem? ht
  exact (show Tryd.prog.wantsStandIn t = false by simpa using List.all_eq_true.1 hall t hm)

/-- The card. -/
theorem proved : Rows.CrcTurnedCardSaid :=
  Claim7.holds_tied_plain_at .later [] _ _ _ _ over (fun _ h => by cases h) (by kernel_rfl) (fun _ h => by cases h) crcTurned_row_tie rfl ⟨rfl, rfl⟩ (by kernel_rfl) rfl plain (by kernel_rfl)
#print axioms proved
end crcTurned
end Go.Proofs.YtengpepapoainaaDoor
