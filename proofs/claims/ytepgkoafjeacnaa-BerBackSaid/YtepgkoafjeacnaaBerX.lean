/- The laws of ber, walked on calls that keep their word. -/
import Derived.Test.YtepgkoafjeacnaaBerS
import Derived.Test.YtepgkoafjeacnaaBerH
namespace Go.Proofs.Ytepgkoafjeacnaa
open Go.ChangeShapes Go.WideShapes Go.ChangeAt Go.RowKit K P1 B5
set_option linter.unusedVariables false

/-- What the program's calls are known to answer, in any world of which I. -/
structure BerOk (I : World → Prop) : Prop where
  keep : ∀ a b, I a → Below a.heap.size a b → I b
  works : ∀ w, I w → Calls Try.prog 7 #[] w fun e w' => e = .returned (.bool true) ∧ Below w.heap.size w w'
  wrap : ∀ (t : Int) (b : List UInt8) (w : World), -9223372036854775808 ≤ t → t ≤ 9223372036854775807 → b.length ≤ 20000000 → I w → Calls Try.prog 8 #[.int .i64 t, .string (bs b)] w fun e w' => e = .returned (.tuple #[.string (bs (wrT t b)), .int .i64 (wrE t b : Nat)]) ∧ Below w.heap.size w w'
  deep : ∀ (l : List UInt8) (w : World), l.length ≤ 30000 → I w → Calls Try.prog 21 #[.string (bs l)] w fun e w' => e = .returned (.tuple #[.int .i64 (whD l : Nat), .int .i64 (whE l : Nat)]) ∧ Below w.heap.size w w'
  canon : ∀ (l : List UInt8) (w : World), l.length ≤ 30000 → I w → Calls Try.prog 20 #[.string (bs l)] w fun e w' => e = .returned (.tuple #[.string (bs (whC l)), .int .i64 (whE l : Nat)]) ∧ Below w.heap.size w w'
  putn : ∀ (n : Int) (w : World), -9223372036854775808 ≤ n → n ≤ 9223372036854775807 → I w → Calls Try.prog 10 #[.int .i64 n] w fun e w' => e = .returned (.string (bs (pn n))) ∧ Below w.heap.size w w'
  putu : ∀ (m : Nat) (w : World), m < 18446744073709551616 → I w → Calls Try.prog 12 #[.int .u64 m] w fun e w' => e = .returned (.string (bs (un m))) ∧ Below w.heap.size w w'
theorem wr_yes (t : Nat) (b : List UInt8) (ht : t < 256) (h2 : isTag t = true) (hb : b.length ≤ 16777216) : wrT (t : Int) b = put t b ∧ wrE (t : Int) b = 0 := by
  have hi : isTi (t : Int) = true := by
    unfold isTi; rw [decide_eq_true (by omega), decide_eq_true (by omega), Int.toNat_natCast, h2]; rfl
  unfold wrT wrE
  rw [hi, if_pos rfl, if_pos rfl, if_neg (by omega), if_neg (by omega)]
  exact ⟨by simp, rfl⟩
theorem BerOk.wrapOk {I : World → Prop} (K : BerOk I) : WrapOk I := by
  refine ⟨K.keep, fun t b w ht h2 hb hw => ?_⟩
  have := K.wrap (t : Int) b w (by omega) (by omega) (by omega) hw
  rw [(wr_yes t b h2 ht hb).1, (wr_yes t b h2 ht hb).2] at this
  exact this

set_option maxRecDepth 100000 in
set_option maxHeartbeats 1000000 in
theorem berWrites_walk (I : World → Prop) (K : BerOk I) (t : Int) (t0 : -9223372036854775808 ≤ t) (t1 : t ≤ 9223372036854775807) (b : List UInt8) (hb : b.length ≤ 140737488351232) (n : Int) (n0 : -9223372036854775808 ≤ n) (n1 : n ≤ 9223372036854775807) (w : World) (hw : I w) :
    Calls Try.prog 3 #[.int .i64 t, .string (bs b), .int .i64 n] w fun e w' => e = .returned (.bool true) ∧ Below w.heap.size w w' := by
  have HK := Lib.hid K.keep
  have HW := Lib.hid K.works
  by_cases h : 100000 < b.length
  · have h1 : (100000 : Int) < ((b.length : Nat) : Int) := by omega
    clear K h
    go_enter Try.func3, Try.ntmps3
    go_wp2_with fail
    refine (HW.out w hw).mono ?_
    rintro e w1 ⟨rfl, b1⟩
    go_wp2
    go_ret
    exact ⟨rfl, b1⟩
  · have h1 : ((b.length : Nat) : Int) ≤ 100000 := by omega
    have HA := Lib.hid (fun w1 (h : I w1) => K.wrap t b w1 t0 t1 (by omega) h)
    have HB := Lib.hid (fun w1 => qwrap_walk t b hb w1)
    have HC := Lib.hid (fun w1 (h : I w1) => K.putn n w1 n0 n1 h)
    have HD := Lib.hid (fun w1 => qputnumber_walk n n0 n1 w1)
    have HE := Lib.hid (fun w1 (h : I w1) => K.putu (u64 n) w1 (u64_lt n) h)
    have HF := Lib.hid (fun w1 => qputunsigned_walk (u64 n) (u64_lt n) w1)
    have hu : IntKind.u64.wrap n = ((u64 n : Nat) : Int) := by
      unfold u64; simp [IntKind.wrap, IntKind.signed, IntKind.bits]; omega
    generalize wrT t b = X1 at *
    generalize wrE t b = X2 at *
    generalize pn n = X3 at *
    generalize un (u64 n) = X4 at *
    have s1 : (X1 == X1) = true := by simp
    have s3 : (X3 == X3) = true := by simp
    have s4 : (X4 == X4) = true := by simp
    clear K h
    go_enter Try.func3, Try.ntmps3
    go_wp2_with fail
    refine (HA.out w hw).mono ?_
    rintro e w1 ⟨rfl, b1⟩
    go_wp2_with fail
    refine (HB.out w1).mono ?_
    rintro e w2 ⟨rfl, d⟩
    have b2 := b1.trans (d.mono b1.size)
    clear d
    go_wp2_with fail
    refine (HC.out w2 (HK.out _ _ hw b2)).mono ?_
    rintro e w3 ⟨rfl, d⟩
    have b3 := b2.trans (d.mono b2.size)
    clear d
    go_wp2_with fail
    refine (HD.out w3).mono ?_
    rintro e w4 ⟨rfl, d⟩
    have b4 := b3.trans (d.mono b3.size)
    clear d
    go_wp2_with fail
    refine (HE.out w4 (HK.out _ _ hw b4)).mono ?_
    rintro e w5 ⟨rfl, d⟩
    have b5 := b4.trans (d.mono b4.size)
    clear d
    go_wp2_with fail
    refine (HF.out w5).mono ?_
    rintro e w6 ⟨rfl, d⟩
    have b6 := b5.trans (d.mono b5.size)
    clear d
    go_wp2_with fail
    refine (HW.out w6 (HK.out _ _ hw b6)).mono ?_
    rintro e w7 ⟨rfl, d⟩
    have b7 := b6.trans (d.mono b6.size)
    clear d
    go_wp2
    go_ret
    exact ⟨rfl, b7⟩

theorem canon_good {l : List UInt8} {f : Fo} (h : wh l = .ok f) : whE l = 0 ∧ whD l = f.dep ∧ whC l = f.enc ∧ f.enc.length ≤ l.length ∧ whE f.enc = 0 ∧ whD f.enc = f.dep ∧ whC f.enc = f.enc ∧ f.dep ≤ 32 := by
  obtain ⟨a1, a2, a3⟩ := wh_ok h
  obtain ⟨c1, c2, c3, c4⟩ := wh_again h
  obtain ⟨d1, d2, d3⟩ := wh_ok c1
  exact ⟨a1, a2, a3, c2, d1, d2, d3, c4⟩
theorem prs_codes : ∀ (n a : Nat) (l : List UInt8) (e : Nat), l.length ≤ n → prs a l = .error e → e = 50 ∨ e = 51
  | 0, a, l, e, hn, h => by
    obtain rfl : l = [] := List.length_eq_zero_iff.1 (by omega)
    rw [prs_nil] at h; cases h
  | n + 1, a, l, e, hn, h => by
    by_cases he : l = []
    · subst he; rw [prs_nil] at h; cases h
    · rw [prs_step he] at h
      by_cases hx : nxOk l = true
      · rw [if_neg (by rw [hx]; simp)] at h
        obtain ⟨_, _, _, _, h5⟩ := nx_of hx
        by_cases ha : 32 < a
        · rw [if_pos ha] at h; cases h; exact .inr rfl
        · rw [if_neg ha] at h
          by_cases hm : isMade (nxT l) = true
          · rw [if_pos hm] at h
            cases h1 : prs (a + 1) (nxB l) with
            | error e1 => rw [h1] at h; cases h; exact prs_codes n _ _ _ (by omega) h1
            | ok cs =>
              rw [h1] at h
              cases h2 : prs a (nxR l) with
              | error e2 => rw [h2] at h; cases h; exact prs_codes n _ _ _ (by omega) h2
              | ok r => rw [h2] at h; cases h
          · rw [if_neg hm] at h
            cases h2 : prs a (nxR l) with
            | error e2 => rw [h2] at h; cases h; exact prs_codes n _ _ _ (by omega) h2
            | ok r => rw [h2] at h; cases h
      · rw [Bool.not_eq_true] at hx
        rw [if_pos hx] at h; cases h; exact .inl rfl
theorem wh_codes {l : List UInt8} {e : Nat} (h : wh l = .error e) : e = 50 ∨ e = 51 := by
  unfold wh at h
  by_cases hx : nxOk l = true
  · rw [if_neg (by rw [hx]; simp)] at h
    unfold hd1 at h
    by_cases hm : isMade (nxT l) = true
    · rw [if_pos hm] at h
      cases h1 : prs 2 (nxB l) with
      | error e1 => rw [h1] at h; cases h; exact prs_codes _ _ _ _ (Nat.le_refl _) h1
      | ok cs =>
        rw [h1] at h
        by_cases hr : nxR l = []
        · simp [hr] at h
        · simp [hr] at h; exact .inl h.symm
    · rw [if_neg hm] at h
      by_cases hr : nxR l = []
      · simp [hr] at h
      · simp [hr] at h; exact .inl h.symm
  · rw [Bool.not_eq_true] at hx
    rw [if_pos hx] at h; cases h; exact .inl rfl
set_option maxRecDepth 100000 in
set_option maxHeartbeats 2000000 in
theorem berCanon_walk (I : World → Prop) (K : BerOk I) (HR : RepOk) (l : List UInt8) (hl : l.length ≤ 140737488351232) (ao : Option Addr) (len cap : Nat) (ns : Nat → Int) (w : World) (ha : Nums .i64 w ao len ns) (hw : I w) :
    Calls Try.prog 5 #[.string (bs l), .slice ao len cap] w fun e w' => e = .returned (.bool true) ∧ Below w.heap.size w w' := by
  have HK := Lib.hid K.keep
  have HW := Lib.hid (K.works w hw)
  have hk : ∀ i, 0 ≤ belowN (ns i) 200 ∧ belowN (ns i) 200 < 200 := fun i => belowN_bounds (ns i) 200 (by omega)
  obtain ⟨g1, g2, g3⟩ := gall_facts (fun i => belowN (ns i) 5) (fun i => belowN (ns i) 200) hk (min len 60) (by omega)
  have HG := Lib.hid (fun w1 (h : Nums .i64 w1 ao len ns) (h2 : I w1) => grown_walk I K.wrapOk HR ao len cap ns w1 h h2)
  generalize gall (fun i => belowN (ns i) 5) (fun i => belowN (ns i) 200) (min len 60) = st at *
  obtain ⟨f1, f2, f3, f4, t, cs, f5⟩ := grow_facts g1 g2 (by omega)
  have hwh := wh_one f1 (.inr ⟨t, cs, f5⟩)
  rw [if_pos (by omega)] at hwh
  obtain ⟨c1, c2, c3⟩ := wh_ok hwh
  clear f5 g1 g2 g3 hwh hk
  generalize hd : (grow st).dep = D at *
  have HC := Lib.hid (fun w1 (h : I w1) => K.canon (grow st).enc w1 (by omega) h)
  have HD := Lib.hid (fun w1 (h : I w1) => K.deep (grow st).enc w1 (by omega) h)
  rw [c1, c3] at HC
  rw [c1, c2] at HD
  clear c1 c2 c3 hd f1
  generalize (grow st).enc = X at *
  have sx : (X != X) = false := by simp
  have hNums : ∀ w1, Below w.heap.size w w1 → Nums .i64 w1 ao len ns := by
    intro w1 hb
    obtain ⟨a1, a2, a3⟩ := ha
    refine ⟨a1, ?_, a3⟩
    rcases a2 with h | ⟨b, off, h, hrow⟩
    · exact .inl h
    · exact .inr ⟨b, off, h, hrow.below hb (Nat.le_refl _)⟩
  have HN := Lib.hid hNums
  clear hNums ha
  have HC2 := Lib.hid (fun w1 (h : I w1) (hl : l.length ≤ 3000) => K.canon l w1 (by omega) h)
  have HD2 := Lib.hid (fun w1 (h : I w1) (hl : l.length ≤ 3000) => K.deep l w1 (by omega) h)
  have HC3 := Lib.hid (fun x w1 (h : I w1) (hl : x.length ≤ 3000) => K.canon x w1 (by omega) h)
  have HD3 := Lib.hid (fun x w1 (h : I w1) (hl : x.length ≤ 3000) => K.deep x w1 (by omega) h)
  clear K HR
  go_enter Try.func5, Try.ntmps5
  go_wp2_with fail
  refine HW.out.mono ?_
  rintro e w1 ⟨rfl, b1⟩
  go_wp2_with fail
  refine (HG.out w1 (HN.out w1 b1) (HK.out _ _ hw b1)).mono ?_
  rintro e w2 ⟨rfl, d⟩
  have b2 := b1.trans (d.mono b1.size)
  clear d
  go_wp2_with fail
  refine (HC.out w2 (HK.out _ _ hw b2)).mono ?_
  rintro e w3 ⟨rfl, d⟩
  have b3 := b2.trans (d.mono b2.size)
  clear d
  go_wp2_with fail
  refine (HD.out w3 (HK.out _ _ hw b3)).mono ?_
  rintro e w4 ⟨rfl, d⟩
  have b4 := b3.trans (d.mono b3.size)
  clear d b1 b2 b3
  have hD1 : (1 : Int) ≤ (D : Nat) := by omega
  have hD2 : ((D : Nat) : Int) ≤ 13 := by omega
  by_cases h3 : 3000 < l.length
  · have h3' : (3000 : Int) < ((l.length : Nat) : Int) := by omega
    clear h3
    go_wp2
    go_ret
    exact ⟨rfl, b4⟩
  · have h3' : ((l.length : Nat) : Int) ≤ 3000 := by omega
    have h3n : l.length ≤ 3000 := by omega
    clear h3
    have hC := HC2.out w4 (HK.out _ _ hw b4) h3n
    have hDp := fun w5 h => HD2.out w5 h h3n
    cases hwh : wh l with
    | error e =>
      obtain ⟨a1, a2, a3⟩ := wh_bad hwh
      have hec := wh_codes hwh
      rw [a1, a3] at hC
      rw [a1, a2] at hDp
      have HCx := Lib.hid hC
      have HDx := Lib.hid hDp
      have hne : (((e : Nat) : Int) != 0) = true := by rw [bne_iff_ne]; omega
      clear hC hDp hwh a1 a2 a3 hec
      go_wp2_with fail
      refine HCx.out.mono ?_
      rintro e5 w5 ⟨rfl, d⟩
      have b5 := b4.trans (d.mono b4.size)
      clear d
      go_wp2_with fail
      refine (HDx.out w5 (HK.out _ _ hw b5)).mono ?_
      rintro e6 w6 ⟨rfl, d⟩
      have b6 := b5.trans (d.mono b5.size)
      clear d
      go_wp2
      go_ret
      exact ⟨rfl, b6⟩
    | ok f =>
      obtain ⟨a1, a2, a3, a4, a5, a6, a7, a8⟩ := canon_good hwh
      rw [a1, a3] at hC
      rw [a1, a2] at hDp
      have hC3 := fun w5 h => HC3.out f.enc w5 h (by omega)
      have hD3 := fun w5 h => HD3.out f.enc w5 h (by omega)
      rw [a5, a7] at hC3
      rw [a5, a6] at hD3
      have HCx := Lib.hid hC
      have HDx := Lib.hid hDp
      have HCy := Lib.hid hC3
      have HDy := Lib.hid hD3
      clear hC hDp hC3 hD3 hwh a1 a2 a3 a5 a6 a7
      generalize f.enc = Y at *
      generalize f.dep = E at *
      have sy : (Y == Y) = true := by simp
      have hYl : ((Y.length : Nat) : Int) ≤ ((l.length : Nat) : Int) := by omega
      go_wp2_with fail
      refine HCx.out.mono ?_
      rintro e5 w5 ⟨rfl, d⟩
      have b5 := b4.trans (d.mono b4.size)
      clear d
      go_wp2_with fail
      refine (HDx.out w5 (HK.out _ _ hw b5)).mono ?_
      rintro e6 w6 ⟨rfl, d⟩
      have b6 := b5.trans (d.mono b5.size)
      clear d
      go_wp2_with fail
      refine (HCy.out w6 (HK.out _ _ hw b6)).mono ?_
      rintro e7 w7 ⟨rfl, d⟩
      have b7 := b6.trans (d.mono b6.size)
      clear d
      go_wp2_with fail
      refine (HDy.out w7 (HK.out _ _ hw b7)).mono ?_
      rintro e8 w8 ⟨rfl, d⟩
      have b8 := b7.trans (d.mono b7.size)
      clear d
      go_wp2
      go_ret
      exact ⟨rfl, b8⟩
theorem tower_zero (b : List UInt8) : (tower b 0).enc = put 4 b := by show put 4 b ++ [] = _; rw [List.append_nil]
def TwRel (w : World) (b : List UInt8) (M g : Nat) (v5 v6 v22 : Value) (wr : World) : Prop :=
  ∃ i, i + g = M ∧ v5 = .string (bs (tower b i).enc) ∧ v6 = .int .i64 0 ∧ v22 = .int .i64 (i : Nat) ∧ Below w.heap.size w wr
set_option maxRecDepth 100000 in
set_option maxHeartbeats 1000000 in
theorem berDeep_walk (I : World → Prop) (K : BerOk I) (x : Int) (x0 : -9223372036854775808 ≤ x) (x1 : x ≤ 9223372036854775807) (b : List UInt8) (hb : b.length ≤ 140737488351232) (w : World) (hw : I w) :
    Calls Try.prog 6 #[.int .i64 x, .string (bs b)] w fun e w' => e = .returned (.bool true) ∧ Below w.heap.size w w' := by
  have HK := Lib.hid K.keep
  have HW := Lib.hid (K.works w hw)
  by_cases h : 300 < b.length
  · have h1 : (300 : Int) < ((b.length : Nat) : Int) := by omega
    clear K h
    go_enter Try.func6, Try.ntmps6
    go_wp2_with fail
    refine HW.out.mono ?_
    rintro e w1 ⟨rfl, b1⟩
    go_wp2
    go_ret
    exact ⟨rfl, b1⟩
  · have h1 : ((b.length : Nat) : Int) ≤ 300 := by omega
    have hbn := belowN_bounds x 40 (by omega)
    have HB := Lib.hid (fun w1 => below_walk x 40 x0 x1 (by omega) (by omega) w1)
    obtain ⟨M, hM⟩ := Int.eq_ofNat_of_zero_le hbn.1
    have hM40 : M < 40 := by omega
    rw [hM] at HB
    have HA := Lib.hid (fun w1 (h : I w1) => K.wrapOk.2 4 b w1 rfl (by omega) (by omega) h)
    have HL := Lib.hid (fun i => tower_len b i)
    have HC := Lib.hid (fun i (hi : i < 40) w1 (h : I w1) => K.wrapOk.2 48 (tower b i).enc w1 rfl (by omega) (by have := tower_len b i; omega) h)
    have HE := Lib.hid (tower_enc b)
    have hw1 := wh_one (tower_wf b (by omega) M (by omega)) (tower_one b M)
    rw [tower_dep] at hw1
    have HD := Lib.hid (fun w1 (h : I w1) => K.deep (tower b M).enc w1 (by have := tower_len b M; omega) h)
    have HZ := Lib.hid (tower_zero b)
    have HW1 := Lib.hid hw1
    clear K h hbn hM hw1
    go_enter Try.func6, Try.ntmps6
    go_wp2_with fail
    refine HW.out.mono ?_
    rintro e w1 ⟨rfl, b1⟩
    go_wp2_with fail
    refine (HB.out w1).mono ?_
    rintro e w2 ⟨rfl, rfl⟩
    go_wp2_with fail
    refine (HA.out w1 (HK.out _ _ hw b1)).mono ?_
    rintro e w2 ⟨rfl, d⟩
    have b2 := b1.trans (d.mono b1.size)
    clear d
    go_wp2
    go_loopg [5, 6, 22] M (fun g v5 v6 v22 wr => TwRel w b M g v5 v6 v22 wr)
    case atStart => exact ⟨0, by omega, by rw [HZ.out], rfl, rfl, b2⟩
    case round =>
      obtain ⟨i, hig, rfl, rfl, rfl, hbr⟩ := hrel
      cases gk with
      | zero =>
        obtain rfl : i = M := by omega
        have hD := HD.out wr (HK.out _ _ hw hbr)
        have hw1 := HW1.out
        by_cases hd : i + 1 ≤ 32
        · rw [if_pos hd] at hw1
          obtain ⟨a1, a2, a3⟩ := wh_ok hw1
          rw [tower_dep] at a2
          rw [a1, a2] at hD
          have HDx := Lib.hid hD
          have hi1 : ((i : Nat) : Int) + 1 ≤ 32 := by omega
          clear hw1 a1 a2 a3 hD hd hig
          generalize (tower b i).enc = X at *
          go_wp2_with fail
          refine HDx.out.mono ?_
          rintro e w5 ⟨rfl, d⟩
          have b5 := hbr.trans (d.mono hbr.size)
          clear d
          go_wp2
          go_ret
          exact ⟨rfl, b5⟩
        · rw [if_neg hd] at hw1
          obtain ⟨a1, a2, a3⟩ := wh_bad hw1
          rw [a1, a2] at hD
          have HDx := Lib.hid hD
          have hi1 : (32 : Int) < ((i : Nat) : Int) + 1 := by omega
          clear hw1 a1 a2 a3 hD hd hig
          generalize (tower b i).enc = X at *
          go_wp2_with fail
          refine HDx.out.mono ?_
          rintro e w5 ⟨rfl, d⟩
          have b5 := hbr.trans (d.mono hbr.size)
          clear d
          go_wp2
          go_ret
          exact ⟨rfl, b5⟩
      | succ g =>
        have hC := HC.out i (by omega) wr (HK.out _ _ hw hbr)
        rw [← HE.out] at hC
        have HCx := Lib.hid hC
        have hlen := HL.out i
        have him : i < M := by omega
        clear hC
        generalize hX : (tower b i).enc = X at *
        have HX := Lib.hid hX
        clear hX
        go_wp2_with fail
        refine HCx.out.mono ?_
        rintro e w5 ⟨rfl, d⟩
        have b5 := hbr.trans (d.mono hbr.size)
        clear d
        go_wp2
        go_roundg g
        case measure => omega
        case rel => exact ⟨i + 1, by omega, rfl, rfl, by simp, b5⟩
end Go.Proofs.Ytepgkoafjeacnaa
