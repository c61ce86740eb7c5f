/- The document's answer for crc, walked. -/
import Derived.Test.YtengpepapoainaaDoorCrcA
import Derived.Test.YtengpepapoainaaDoorPad
namespace Go.Proofs.YtengpepapoainaaDoor
open Go.ChangeShapes Go.WideShapes Go.ChangeAt Go.RowKit K C2
set_option linter.unusedVariables false

theorem bits_and_u32 (a b : BitVec 32) : bits .and .u32 (uu a) (uu b) = uu (a &&& b) := by
  show IntKind.u32.wrap ((BitVec.ofInt 32 (uu a) &&& BitVec.ofInt 32 (uu b)).toNat : Int) = _
  rw [ofInt_uu, ofInt_uu, wrap_u32]
  have := (a &&& b).isLt
  unfold uu; omega
@[go_sem] theorem uu_and255 (a : BitVec 32) : bits .and .u32 (uu a) 255 = uu (lo 8 a) := by
  have e : (255 : Int) = uu 255#32 := by decide
  rw [e, bits_and_u32]
  congr 1
  apply BitVec.eq_of_toNat_eq
  have h255 : (255#32).toNat = 2 ^ 8 - 1 := by decide
  rw [BitVec.toNat_and, h255, Nat.and_two_pow_sub_one_eq_mod, lo, BitVec.toNat_ofNat]
  have := a.isLt
  omega
/-- The lowest bit, as a plain name. -/
def lo1 (a : BitVec 32) : Nat := a.toNat % 2
@[go_sem] theorem uu_and1 (a : BitVec 32) : bits .and .u32 (uu a) 1 = (lo1 a : Nat) := by
  have e : (1 : Int) = uu 1#32 := by decide
  rw [e, bits_and_u32]
  unfold uu lo1
  rw [BitVec.toNat_and, show (1#32).toNat = 2 ^ 1 - 1 by decide, Nat.and_two_pow_sub_one_eq_mod]
theorem lo1_bit (a : BitVec 32) : a.getLsbD 0 = decide (lo1 a = 1) := by
  rw [← BitVec.testBit_toNat, Nat.testBit_zero]; rfl
@[go_sem] theorem uu_shr1 (a : BitVec 32) : bits .xor .u32 (uu a / 2) 3988292384 = uu (a >>> 1 ^^^ Px) := by
  have e : (3988292384 : Int) = uu Px := by decide
  rw [e, ← uu_xor, ← uu_shr 1]; rfl
@[go_sem] theorem uu_shr8 (a b : BitVec 32) : bits .xor .u32 (uu a / 256) (uu b) = uu (a >>> 8 ^^^ b) := by
  rw [← uu_xor, ← uu_shr 8]; rfl

theorem step_walk (c : BitVec 32) (l : List UInt8) (i : Nat) (w : World) :
    Calls Tryd.prog 19 #[.int .u32 (uu c), .int .u8 (byt l i : Nat)] w fun e w' => e = .returned (.int .u32 (uu (stp c (at32 l i)))) ∧ w = w' := by
  have hb := byt_lt l i
  rw [← step_eq]
  go_enter Tryd.func19, Tryd.ntmps19
  go_wp2
  go_loop [5, 6] (fun v5 v6 => ∃ j : Nat, j ≤ 8 ∧ v6 = .int .i64 j ∧ v5 = .int .u32 (uu (Tn j (lo 8 (c ^^^ w8 (at32 l i)))))) (fun v5 v6 => (8 - intOf v6).toNat)
  case atStart => exact ⟨0, by omega, rfl, rfl⟩
  case round =>
    obtain ⟨j, hj, rfl, rfl⟩ := hrel
    by_cases h : j < 8
    · have hst : Tn (j + 1) (lo 8 (c ^^^ w8 (at32 l i))) = T1 (Tn j (lo 8 (c ^^^ w8 (at32 l i)))) := Tn_add j 1 _
      generalize Tn j (lo 8 (c ^^^ w8 (at32 l i))) = x at hst ⊢
      have HS := Lib.hid hst; clear hst
      have hx01 : lo1 x = 0 ∨ lo1 x = 1 := by unfold lo1; omega
      have hbit := lo1_bit x
      rcases hx01 with hx | hx
      · rw [hx] at hbit
        have HB := Lib.hid hbit; clear hbit
        go_wp2
        go_round
        case measure => simp [intOf]; omega
        case rel =>
          refine ⟨j + 1, by omega, by simp, ?_⟩
          rw [HS.out]
          unfold T1
          rw [HB.out]
          simp only [Nat.zero_ne_one, decide_false, Bool.false_eq_true, if_false, BitVec.xor_zero]
          rw [← uu_shr 1]; rfl
      · rw [hx] at hbit
        have HB := Lib.hid hbit; clear hbit
        go_wp2
        go_round
        case measure => simp [intOf]; omega
        case rel =>
          refine ⟨j + 1, by omega, by simp, ?_⟩
          rw [HS.out]
          unfold T1
          rw [HB.out]
          simp
    · obtain rfl : j = 8 := by omega
      go_wp2
      go_ret
      exact ⟨rfl, rfl⟩

theorem rSum_walk (l : List UInt8) (hl : l.length ≤ 140737488351232) (w : World) :
    Calls Tryd.prog 12 #[.string (bs l)] w fun e w' => e = .returned (.int .i64 (uu (C2.sum l))) ∧ w = w' := by
  go_enter Tryd.func12, Tryd.ntmps12
  go_wp2
  go_loop [3, 4] (fun v3 v4 => ∃ i : Nat, i ≤ l.length ∧ v4 = .int .i64 i ∧ v3 = .int .u32 (uu (reg (0#32 ^^^ all1) (l.take i)))) (fun v3 v4 => (l.length - intOf v4).toNat)
  case atStart => exact ⟨0, by omega, rfl, rfl⟩
  case round =>
    obtain ⟨i, hi, rfl, rfl⟩ := hrel
    by_cases h : i < l.length
    · have hr := reg_snoc (0#32 ^^^ all1) l i h
      generalize reg (0#32 ^^^ all1) (l.take i) = c at hr ⊢
      have HR := Lib.hid hr; clear hr
      go_wp2_with fail
      refine (step_walk c l i w).mono ?_
      rintro e w1 ⟨rfl, rfl⟩
      go_wp2
      go_round
      case measure => simp [intOf]; omega
      case rel =>
        refine ⟨i + 1, by omega, by simp, ?_⟩
        rw [HR.out, ← at32_get l i h]
    · obtain rfl : i = l.length := by omega
      rw [List.take_length]
      go_wp2
      go_ret
      exact ⟨rfl, rfl⟩
theorem rMoreOk_walk (s : BitVec 32) (l : List UInt8) (hl : l.length ≤ 140737488351232) (w : World) :
    Calls Tryd.prog 8 #[.int .i64 (uu s), .string (bs l)] w fun e w' => e = .returned (.tuple #[.int .i64 (uu (C2.more s l)), .int .i64 0]) ∧ w = w' := by
  have hs := uu_bounds s
  go_enter Tryd.func8, Tryd.ntmps8
  go_wp2
  go_loop [6, 7] (fun v3 v4 => ∃ i : Nat, i ≤ l.length ∧ v4 = .int .i64 i ∧ v3 = .int .u32 (uu (reg (s ^^^ all1) (l.take i)))) (fun v3 v4 => (l.length - intOf v4).toNat)
  case atStart => exact ⟨0, by omega, rfl, rfl⟩
  case round =>
    obtain ⟨i, hi, rfl, rfl⟩ := hrel
    by_cases h : i < l.length
    · have hr := reg_snoc (s ^^^ all1) l i h
      generalize reg (s ^^^ all1) (l.take i) = c at hr ⊢
      have HR := Lib.hid hr; clear hr
      go_wp2_with fail
      refine (step_walk c l i w).mono ?_
      rintro e w1 ⟨rfl, rfl⟩
      go_wp2
      go_round
      case measure => simp [intOf]; omega
      case rel =>
        refine ⟨i + 1, by omega, by simp, ?_⟩
        rw [HR.out, ← at32_get l i h]
    · obtain rfl : i = l.length := by omega
      rw [List.take_length]
      go_wp2
      go_ret2
      exact ⟨rfl, rfl⟩
theorem rMoreNo_walk (n : Int) (l : List UInt8) (hn : isS n = false) (w : World) :
    Calls Tryd.prog 8 #[.int .i64 n, .string (bs l)] w fun e w' => e = .returned (.tuple #[.int .i64 0, .int .i64 1]) ∧ w = w' := by
  unfold isS at hn
  have hn2 := of_decide_eq_false hn
  clear hn
  by_cases h0 : n < 0
  all_goals
    go_enter Tryd.func8, Tryd.ntmps8
    go_wp2
    go_ret2
    exact ⟨rfl, rfl⟩

/-- The four bytes of a text, the last one first. -/
def rev4 (p : List UInt8) : List UInt8 := [at32 p 3, at32 p 2, at32 p 1, at32 p 0]
theorem run_conv_rev {P : Program} (src e dst : TypeId) (hs : P.underlying src = some (.slice e)) (he : P.underlying e = some (.int .u8)) (hd : P.underlying dst = some .string) (p : List UInt8) :
    ∀ (w : World), (convert src dst (.slice (some ⟨w.heap.size, 0, none⟩) 4 4)).run P (w.alloc (.cells #[.int .u8 (byt p 3 : Nat), .int .u8 (byt p 2 : Nat), .int .u8 (byt p 1 : Nat), .int .u8 (byt p 0 : Nat)] e)) =
      .ok (.string (bs (rev4 p))) (w.alloc (.cells #[.int .u8 (byt p 3 : Nat), .int .u8 (byt p 2 : Nat), .int .u8 (byt p 1 : Nat), .int .u8 (byt p 0 : Nat)] e)) := by
  intro w
  exact run_conv_tail (P := P) _ src e dst hs he hd (p := 0) (l := rev4 p) (rowNew w _) rfl 4 4 rfl
theorem run_conv_revD {P : Program} (src e dst : TypeId) (hs : P.underlying src = some (.slice e)) (he : P.underlying e = some (.int .u8)) (hd : P.underlying dst = some .string) (p : List UInt8) :
    ∀ (w : World), (convert src dst (.slice (some ⟨w.heap.size, 0, none⟩) 4 4)).run P (w.alloc (.cells #[.int .u8 (byt p 3 : Nat), .int .u8 (byt p 2 : Nat), .int .u8 (byt p 1 : Nat), .int .u8 (byt p 0 : Nat)] e)).drew =
      .ok (.string (bs (rev4 p))) (w.alloc (.cells #[.int .u8 (byt p 3 : Nat), .int .u8 (byt p 2 : Nat), .int .u8 (byt p 1 : Nat), .int .u8 (byt p 0 : Nat)] e)).drew := by
  intro w
  exact run_conv_tail (P := P) (w.alloc (.cells #[.int .u8 (byt p 3 : Nat), .int .u8 (byt p 2 : Nat), .int .u8 (byt p 1 : Nat), .int .u8 (byt p 0 : Nat)] e)).drew src e dst hs he hd (p := 0) (l := rev4 p) (rowNew w (.cells #[.int .u8 (byt p 3 : Nat), .int .u8 (byt p 2 : Nat), .int .u8 (byt p 1 : Nat), .int .u8 (byt p 0 : Nat)] e)) rfl 4 4 rfl
theorem rev4_pad (c : BitVec 32) : rev4 (P1.pad 4 c.toNat) = le4 c := rfl

theorem rTag_walk (l : List UInt8) (hl : l.length ≤ 70368744177664) (w : World) :
    Calls Tryd.prog 14 #[.string (bs l)] w fun e w' => e = .returned (.string (bs (l ++ le4 (C2.sum l)))) ∧ Below w.heap.size w w' := by
  have hS := rSum_walk l (by omega)
  generalize C2.sum l = c at hS ⊢
  have hP := padded_walk c.toNat 4 (by have := c.isLt; omega) (by omega)
  have hpl := P1.pad_length 4 c.toNat
  rw [← rev4_pad c]
  generalize P1.pad 4 c.toNat = p at hpl hP ⊢
  have hr4 : (rev4 p).length = 4 := rfl
  have hcv := run_conv_rev (P := Tryd.prog) 34 5 9 Tryd.underlying34 Tryd.underlying5 Tryd.underlying9 p
  have hcd := run_conv_revD (P := Tryd.prog) 34 5 9 Tryd.underlying34 Tryd.underlying5 Tryd.underlying9 p
  generalize rev4 p = q at hr4 hcv hcd ⊢
  go_enter Tryd.func14, Tryd.ntmps14
  go_wp2_with fail
  refine (hS w).mono ?_
  rintro e w1 ⟨rfl, rfl⟩
  go_wp2_with fail
  refine (hP w).mono ?_
  rintro e w1 ⟨rfl, hb⟩
  go_wp2_with fail
  go_region
  go_wp2
  go_ret
  exact ⟨rfl, Below_drew (hb.alloc (by have := hb.size; omega) _)⟩

theorem rOpen_eq (l t : List UInt8) (k : Nat) : (l.take k ++ t == l) = (t == l.drop k) := by
  have h : (l.take k ++ t = l) ↔ (t = l.drop k) := by
    constructor
    · intro h
      have h2 : l.take k ++ t = l.take k ++ l.drop k := by rw [h, List.take_append_drop]
      exact List.append_cancel_left h2
    · intro h
      rw [h, List.take_append_drop]
  rw [Bool.eq_iff_iff, beq_iff_eq, beq_iff_eq, h]
theorem rOpen_walk (l : List UInt8) (hl : l.length ≤ 70368744177664) (w : World) :
    Calls Tryd.prog 10 #[.string (bs l)] w fun e w' => e = .returned (opV (opn l)) ∧ Below w.heap.size w w' := by
  by_cases h : l.length < 4
  · have ho : opn l = none := by unfold opn; rw [if_pos h]
    rw [ho]
    have hd : decide (((l.length : Nat) : Int) - 4 < 0) = true := decide_eq_true (by omega)
    go_enter Tryd.func10, Tryd.ntmps10
    go_wp2
    go_ret2
    exact ⟨rfl, Below.refl _ _⟩
  · obtain ⟨k, hk⟩ : ∃ k, l.length = k + 4 := ⟨l.length - 4, by omega⟩
    have he4 : ((l.length : Nat) : Int) - 4 = (k : Int) := by omega
    have hT := rTag_walk (l.take k) (by simp; omega)
    have ho : opn l = if le4 (C2.sum (l.take k)) = l.drop k then some (l.take k) else none := by unfold opn; rw [if_neg h, show l.length - 4 = k by omega]
    rw [ho]
    have hk0 : (0 : Int) ≤ (k : Int) := by omega
    have hk1 : (k : Int) ≤ (l.length : Nat) := by omega
    have hwr : IntKind.i64.wrap (((l.length : Nat) : Int) - 4) = (k : Int) := by rw [he4]; exact IntWalk.i64_in _ (by omega)
    have hro := rOpen_eq l (le4 (C2.sum (l.take k))) k
    generalize le4 (C2.sum (l.take k)) = t at hT hro ⊢
    have HT := Lib.hid hT; clear hT ho he4 hk h
    by_cases he : t = l.drop k
    all_goals
      first
        | (rw [if_pos he]; have hq : (l.take k ++ t == l) = true := hro.trans (beq_iff_eq.2 he))
        | (rw [if_neg he]; have hq : (l.take k ++ t == l) = false := hro.trans (beq_eq_false_iff_ne.2 he))
      clear he hro
      go_enter Tryd.func10, Tryd.ntmps10
      go_wp2_with fail
      refine (HT.out _).mono ?_
      rintro e x1 ⟨rfl, k1⟩
      go_wp2
      go_ret2
      exact ⟨rfl, k1⟩
end Go.Proofs.YtengpepapoainaaDoor
