/- Texts on the program and on the document, joined: ValG. -/
import Derived.Test.YtkmfcnilbmckmaaGreatDoorMa35
/- The laws of values, walked on calls that keep their word: ValueBig. -/
namespace Go.Proofs.YtkmfcnilbmckmaaGreatDoor
open Go.ChangeShapes Go.WideShapes Go.ChangeAt Go.RowKit K P1 B5
set_option linter.unusedVariables false

structure ValOk2 (I : World → Prop) : Prop extends ValOk I where
  big : ∀ (n : Nat) (w : World), n < 18446744073709551616 → I w → Calls Tryz.prog 18 #[.int .u64 (n : Nat)] w fun e w' => e = .returned (.agg #[.int .i64 70, .int .i64 (wrap64 (n : Nat)), .string (bs [])]) ∧ Below w.heap.size w w'
  next : ∀ (s : List UInt8) (w : World), s.length ≤ 140737488351232 → I w → Calls Tryz.prog 16 #[.string (bs s)] w fun e w' => e = .returned (.tuple #[.agg #[.int .i64 ((nxQ s).1 : Nat), .string (bs (nxQ s).2.1)], .string (bs (nxQ s).2.2), .int .i64 (nxE s : Nat)]) ∧ Below w.heap.size w w'
  unsigned : ∀ (l : List UInt8) (w : World), l.length ≤ 140737488351232 → I w → Calls Tryz.prog 19 #[.string (bs l)] w fun e w' => e = .returned (.tuple #[.int .u64 (uuV l), .int .i64 (uuE l : Nat)]) ∧ Below w.heap.size w w'
theorem vd_ge : ∀ (l : List UInt8) (a : Nat), a ≤ O6.vd a l
  | [], a => Nat.le_refl a
  | c :: l, a => by
    have := vd_ge l (a * 10 + (c.toNat - 48))
    show a ≤ O6.vd (a * 10 + (c.toNat - 48)) l
    omega
def kd (t : List UInt8) (i : Nat) : Nat := O6.vd 0 (t.take i)
theorem kd_step (t : List UInt8) (i : Nat) (h : i < t.length) : kd t (i + 1) = kd t i * 10 + (byt t i - 48) := by
  unfold kd
  rw [List.take_succ_eq_append_getElem h, O6.vd_app, O6.vd_one]
  congr 2
  simp [byt, List.getElem?_eq_getElem h]
theorem kd_le (t : List UInt8) (i : Nat) : kd t i ≤ O6.vd 0 t := by
  unfold kd
  conv => rhs; rw [← List.take_append_drop i t, O6.vd_app]
  exact vd_ge _ _
theorem nm_facts (n : Nat) (h : n < 18446744073709551616) : (O6.nm n).length ≤ 20 ∧ 1 ≤ (O6.nm n).length ∧ (∀ i, i < (O6.nm n).length → 48 ≤ byt (O6.nm n) i ∧ byt (O6.nm n) i ≤ 57) ∧ kd (O6.nm n) 0 = 0 ∧ kd (O6.nm n) (O6.nm n).length = n ∧ ∀ i, kd (O6.nm n) i ≤ n := by
  have hv := O6.vd_nm n (by omega)
  refine ⟨O6.dg_len 20 n, List.length_pos_iff.2 (O6.nm_ne n), ?_, by simp [kd, O6.vd], by unfold kd; rw [List.take_length]; exact hv, fun i => by have := kd_le (O6.nm n) i; omega⟩
  intro i hi
  have hd := O6.dg_digits 20 n
  have := List.all_eq_true.1 hd _ (List.getElem_mem hi)
  unfold O6.isDg at this
  simp only [Bool.and_eq_true, decide_eq_true_eq] at this
  have e : byt (O6.nm n) i = ((O6.nm n)[i]).toNat := by simp [byt, List.getElem?_eq_getElem hi]
  rw [e]; exact this
/-- What stands in the element of a number of the greatest kind. -/
theorem big_facts (n : Nat) (h : n < 18446744073709551616) : nxQ (V7.enT 70 (wrap64 (n : Nat)) []) = (70, un n, []) ∧ nxE (V7.enT 70 (wrap64 (n : Nat)) []) = 0 ∧ V7.ckE 70 (wrap64 (n : Nat)) [] = 0 ∧ (V7.enT 70 (wrap64 (n : Nat)) []).length ≤ 100 ∧ uuV (un n) = (n : Nat) ∧ uuE (un n) = 0 ∧ (un n).length ≤ 9 ∧ shT 70 (wrap64 (n : Nat)) [] = O6.nm n ∧
    ((V7.ckE 65 (wrap64 (n : Nat)) [] = 0 ∧ ((n : Nat) : Int) < 4294967296) ∨ (V7.ckE 65 (wrap64 (n : Nat)) [] = 70 ∧ (4294967296 : Int) ≤ ((n : Nat) : Int))) := by
  have hk : V7.ckV 70 (wrap64 (n : Nat)) [] = true := V7.ck_of (.big rfl rfl)
  have hu : V7.uu (wrap64 (n : Nat)) = n := by rw [V7.uu_wrap _ (by omega) (by omega)]; simp
  have hb : V7.bdV 70 (wrap64 (n : Nat)) [] = un n := by
    unfold V7.bdV
    rw [if_neg (by omega), if_pos (by omega), hu]
  obtain ⟨e1, e2, e3, e4, e5, _, _, _⟩ := V7.en_next hk
  have hl := V7.un_len n h
  obtain ⟨o1, o2⟩ := un_ok n h
  refine ⟨?_, ?_, ?_, ?_, ?_, ?_, hl, ?_, ?_⟩
  · unfold nxQ; rw [e2, if_pos rfl, e3, e4, e5, hb]; rfl
  · unfold nxE; rw [e2]; rfl
  · unfold V7.ckE; rw [hk]; rfl
  · rw [e1, put_len, hb]
    have : (short (un n).length).length ≤ 5 := by
      rw [short_len]; have := kb_pos (un n).length
      by_cases h : (un n).length < 128
      · rw [if_pos h]; omega
      · rw [if_neg h]; omega
    omega
  · rw [(uu_yes o1).1]; exact o2
  · exact (uu_yes o1).2
  · unfold shT; rw [hk, if_pos rfl]
    unfold shV
    rw [if_neg (by omega), if_pos (by omega), hu]
  · by_cases hs : n < 4294967296
    · left
      have : V7.ckV 65 (wrap64 (n : Nat)) [] = true := V7.ck_of (.count (.inl rfl) rfl (by rw [wrap64_eq]; omega) (by rw [wrap64_eq]; omega))
      exact ⟨by unfold V7.ckE; rw [this]; rfl, by omega⟩
    · right
      refine ⟨?_, by omega⟩
      have : V7.ckV 65 (wrap64 (n : Nat)) [] = false := by
        have hw : ¬ (0 ≤ wrap64 ((n : Nat) : Int) ∧ wrap64 ((n : Nat) : Int) ≤ 4294967295) := by rw [wrap64_eq]; omega
        unfold V7.ckV
        simp
        omega
      unfold V7.ckE; rw [this]; rfl
def BgRel (t : List UInt8) (w : World) (g : Nat) (v13 v14 : Value) (wr : World) : Prop :=
  ∃ i : Nat, i + g = t.length ∧ v14 = .int .i64 (i : Nat) ∧ v13 = .int .u64 (kd t i : Nat) ∧ wr = w
set_option maxRecDepth 100000 in
set_option maxHeartbeats 2000000 in
theorem valueBig_walk (I : World → Prop) (K : ValOk2 I) (n : Nat) (hn : n < 18446744073709551616) (w : World) (hw : I w) :
    Calls Tryz.prog 6 #[.int .u64 (n : Nat)] w fun e w' => e = .returned (.bool true) ∧ Below w.heap.size w w' := by
  have HW := Lib.hid (K.works w hw)
  have HK := Lib.hid K.keep
  obtain ⟨f1, f2, f3, f4, f5, f6, f7, f8, f9⟩ := big_facts n hn
  obtain ⟨m1, m2, m3, m4, m5, m6⟩ := nm_facts n hn
  have hB := fun w1 (h : I w1) => K.big n w1 hn h
  have hE := fun w1 (h : I w1) => K.encode 70 (wrap64 (n : Nat)) [] w1 (by simp) (by rw [wrap64_eq]; omega) (by rw [wrap64_eq]; omega) h
  have hN := fun w1 (h : I w1) => K.next (V7.enT 70 (wrap64 (n : Nat)) []) w1 (by omega) h
  have hU := fun w1 (h : I w1) => K.unsigned (un n) w1 (by omega) h
  have hS := fun w1 (h : I w1) => K.shows 70 (wrap64 (n : Nat)) [] w1 (by simp) (by simp) (by rw [wrap64_eq]; omega) (by rw [wrap64_eq]; omega) h
  have hC := fun w1 (h : I w1) => K.check 65 (wrap64 (n : Nat)) [] w1 (by simp) h
  rw [f3] at hE hS
  rw [f1, f2] at hN
  rw [f5, f6] at hU
  rw [f8] at hS
  have hw1 : IntKind.i64.wrap ((n : Nat) : Int) = wrap64 (n : Nat) := by rw [IntKind.wrap_i64, wrap64_eq]
  have HST := Lib.hid (kd_step (O6.nm n))
  have HD := Lib.hid m3
  have HKL := Lib.hid m6
  have HK0 := Lib.hid m4
  have HKN := Lib.hid m5
  have HB := Lib.hid hB; have HE := Lib.hid hE; have HN := Lib.hid hN; have HU := Lib.hid hU; have HS := Lib.hid hS
  clear K hB hE hN hU hS m3 m4 m5 m6 f1 f2 f3 f4 f5 f6 f7 f8
  generalize V7.enT 70 (wrap64 (n : Nat)) [] = EN at *
  generalize O6.nm n = t at *
  generalize un n = UN at *
  generalize V7.ckE 65 (wrap64 (n : Nat)) [] = c65 at *
  generalize wrap64 ((n : Nat) : Int) = z at *
  have HC := Lib.hid hC
  clear hC
  have hn' : ((n : Nat) : Int) < 18446744073709551616 := by omega
  rcases f9 with ⟨rfl, f9⟩ | ⟨rfl, f9⟩
  all_goals
    go_enter Tryz.func6, Tryz.ntmps6
    go_wp2_with fail
    refine HW.out.mono ?_
    rintro e w1 ⟨rfl, b1⟩
    have i1 := HK.out _ _ hw b1
    go_wp2_with fail
    refine (HB.out _ i1).mono ?_
    rintro e w2 ⟨rfl, d2⟩
    have i2 := HK.out _ _ i1 d2
    have b2 := b1.trans (d2.mono b1.size)
    have v3 := Vr.new w2 70 z []
    have i3 := HK.out _ _ i2 (alloc_in w2 (.cells #[.int .i64 70, .int .i64 z, .string (bs [])] 24))
    have b3 := b2.alloc b2.size (.cells #[.int .i64 70, .int .i64 z, .string (bs [])] 24)
    clear d2 b1 b2 i1 i2
    go_wp2_with fail
    generalize w2.alloc (.cells #[.int .i64 70, .int .i64 z, .string (bs [])] 24) = w3 at *
    refine (HE.out _ i3).mono ?_
    rintro e w4 ⟨rfl, d4⟩
    have i4 := HK.out _ _ i3 d4
    have b4 := b3.trans (d4.mono b3.size)
    have v4 := v3.below d4
    clear d4 b3 i3 v3
    go_wp2_with fail
    refine (HN.out _ i4).mono ?_
    rintro e w5 ⟨rfl, d5⟩
    have i5 := HK.out _ _ i4 d5
    have b5 := b4.trans (d5.mono b4.size)
    have v5 := v4.below d5
    clear d5 b4 i4 v4
    have v6 := v5.below (alloc_in w5 (.cells #[.int .i64 70, .string (bs UN)] 29))
    have i6 := HK.out _ _ i5 (alloc_in w5 (.cells #[.int .i64 70, .string (bs UN)] 29))
    have b6 := b5.alloc b5.size (.cells #[.int .i64 70, .string (bs UN)] 29)
    go_wp2_with fail
    refine (HU.out _ i6).mono ?_
    rintro e w7 ⟨rfl, d7⟩
    have i7 := HK.out _ _ i6 d7
    have b7 := b6.trans (d7.mono b6.size)
    have v7 := v6.below d7
    clear d7 b6 i6 v6 b5 i5 v5
    obtain ⟨z0, z1, z2⟩ := v7
    go_wp2_with fail
    refine (HS.out _ i7).mono ?_
    rintro e w8 ⟨rfl, d8⟩
    have i8 := HK.out _ _ i7 d8
    have b8' := b7.trans (d8.mono b7.size)
    have v8 := Vr.below ⟨z0, z1, z2⟩ d8
    clear d8 b7 i7 z0 z1 z2
    obtain ⟨z0, z1, z2⟩ := v8
    go_wp2_with fail
    go_loopg [13, 14] t.length (fun g v13 v14 wr => BgRel t w8 g v13 v14 wr)
    case atStart => exact ⟨0, by omega, rfl, by rw [HK0.out]; rfl, rfl⟩
    case round =>
      obtain ⟨i, hi, rfl, rfl, rfl⟩ := hrel
      cases gk with
      | zero =>
        obtain rfl : i = t.length := by omega
        rw [HKN.out]
        clear hn
        go_wp2_with fail
        refine (HC.out _ i8).mono ?_
        rintro e w9 ⟨rfl, d9⟩
        obtain ⟨y0, y1, y2⟩ := Vr.below ⟨z0, z1, z2⟩ d9
        clear z0 z1 z2 hw1 hn' HST HD HKL
        generalize ((n : Nat) : Int) = nz at *
        go_wp2
        go_ret
        first
          | exact ⟨rfl, b8'.trans (d9.mono b8'.size)⟩
          | exact ⟨by simp; omega, b8'.trans (d9.mono b8'.size)⟩
      | succ g =>
        have hlt : i < t.length := by omega
        have hst := HST.out i hlt
        obtain ⟨g1, g2⟩ := HD.out i hlt
        have hle := HKL.out (i + 1)
        have hs1 : IntKind.u8.wrap (((byt t i : Nat) : Int) - 48) = ((byt t i : Nat) : Int) - 48 := IntWalk.u8_in _ (by omega)
        have hs2 : IntKind.u64.wrap (((byt t i : Nat) : Int) - 48) = ((byt t i : Nat) : Int) - 48 := by simp [IntKind.wrap, IntKind.signed, IntKind.bits]; omega
        have hs3 : IntKind.u64.wrap (((kd t i : Nat) : Int) * 10) = ((kd t i : Nat) : Int) * 10 := by simp [IntKind.wrap, IntKind.signed, IntKind.bits]; omega
        have hs4 : IntKind.u64.wrap (((kd t i : Nat) : Int) * 10 + (((byt t i : Nat) : Int) - 48)) = ((kd t (i + 1) : Nat) : Int) := by simp [IntKind.wrap, IntKind.signed, IntKind.bits]; omega
        have hi20 : ((i : Nat) : Int) < 20 := by omega
        have g1' : (48 : Int) ≤ ((byt t i : Nat) : Int) := by omega
        have g2' : ((byt t i : Nat) : Int) ≤ 57 := by omega
        clear hst hle hn hn' f9 hw1 m2
        obtain ⟨K1, hK1⟩ : ∃ x, kd t (i + 1) = x := ⟨_, rfl⟩
        rw [hK1] at hs4
        have HK1 := Lib.hid hK1
        clear hK1
        generalize kd t i = K0 at *
        go_wp2
        go_roundg g
        case measure => omega
        case rel => exact ⟨i + 1, by omega, by simp, by rw [HK1.out], rfl⟩
end Go.Proofs.YtkmfcnilbmckmaaGreatDoor
