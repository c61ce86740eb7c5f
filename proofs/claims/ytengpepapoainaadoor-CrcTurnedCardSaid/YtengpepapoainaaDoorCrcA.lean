/- crc's own sums, walked. -/
import Derived.Test.YtengpepapoainaaDoorRows
import Derived.Test.YtengpepapoainaaDoorCrcP
import Derived.Test.YtengpepapoainaaDoorLib
import Derived.ProofKit
import Derived.OpenShut
import Derived.ShutString
import Derived.Deep.RegionHeld3
namespace Go.Proofs.YtengpepapoainaaDoor
open Go.ChangeShapes Go.WideShapes Go.ChangeAt Go.RowKit K C2
set_option linter.unusedVariables false

/-- The register as a number of the model. -/
def uu (c : BitVec 32) : Int := (c.toNat : Int)
theorem uu_bounds (c : BitVec 32) : 0 ≤ uu c ∧ uu c ≤ 4294967295 := by have := c.isLt; unfold uu; omega
theorem uu_inj {a b : BitVec 32} (h : uu a = uu b) : a = b := BitVec.eq_of_toNat_eq (by unfold uu at h; omega)
theorem ofInt_uu (a : BitVec 32) : BitVec.ofInt 32 (uu a) = a := by unfold uu; rw [BitVec.ofInt_natCast, BitVec.ofNat_toNat]; simp
theorem wrap_u32 (n : Int) : IntKind.u32.wrap n = n % 4294967296 := by simp [IntKind.wrap, IntKind.bits, IntKind.signed]
@[go_sem] theorem uu_xor (a b : BitVec 32) : bits .xor .u32 (uu a) (uu b) = uu (a ^^^ b) := by
  show IntKind.u32.wrap ((BitVec.ofInt 32 (uu a) ^^^ BitVec.ofInt 32 (uu b)).toNat : Int) = _
  rw [ofInt_uu, ofInt_uu, wrap_u32]
  have := (a ^^^ b).isLt
  unfold uu; omega
theorem uu_w8 (b : UInt8) : (b.toNat : Int) = uu (w8 b) := by unfold uu; rw [w8_toNat]
def at32 (l : List UInt8) (i : Nat) : UInt8 := l[i]?.getD 0
theorem byt_at (l : List UInt8) (i : Nat) : byt l i = (at32 l i).toNat := rfl
theorem at32_get (l : List UInt8) (i : Nat) (h : i < l.length) : at32 l i = l[i] := by simp [at32, h]
@[go_sem] theorem uu_xor_byt (a : BitVec 32) (l : List UInt8) (i : Nat) : bits .xor .u32 (uu a) ((byt l i : Nat) % 4294967296) = uu (a ^^^ w8 (at32 l i)) := by
  have := UInt8.toNat_lt (at32 l i)
  rw [byt_at, show (((at32 l i).toNat : Nat) : Int) % 4294967296 = ((at32 l i).toNat : Int) by omega, uu_w8, uu_xor]
@[go_sem] theorem uu_xor_byt0 (a : BitVec 32) (l : List UInt8) (i : Nat) : bits .xor .u32 (uu a) (byt l i : Nat) = uu (a ^^^ w8 (at32 l i)) := by
  rw [byt_at, uu_w8, uu_xor]
@[go_sem] theorem uu_not (a : BitVec 32) : bits .xor .u32 IntKind.u32.max (uu a) = uu (a ^^^ all1) := by
  have e : IntKind.u32.max = uu all1 := by decide
  rw [e, uu_xor, BitVec.xor_comm]
@[go_sem] theorem uu_all (a : BitVec 32) : bits .xor .u32 (uu a) 4294967295 = uu (a ^^^ all1) := by
  have e : (4294967295 : Int) = uu all1 := by decide
  rw [e, uu_xor]
theorem uu_shr (k : Nat) (a : BitVec 32) : uu a / ((2 ^ k : Nat) : Int) = uu (a >>> k) := by
  unfold uu; rw [BitVec.toNat_ushiftRight, Nat.shiftRight_eq_div_pow]; exact (Int.natCast_ediv _ _).symm
@[go_sem] theorem uu_shr4 (a b : BitVec 32) : bits .xor .u32 (uu a / 16) (uu b) = uu (a >>> 4 ^^^ b) := by
  rw [← uu_xor, ← uu_shr 4]; rfl
/-- The lowest four bits, as a plain name. -/
def lo4 (a : BitVec 32) : Nat := a.toNat % 16
theorem lo4_lt (a : BitVec 32) : lo4 a < 16 := by unfold lo4; omega
@[go_sem] theorem uu_mod16 (a : BitVec 32) : (uu a).tmod 16 = (lo4 a : Nat) := by
  unfold uu lo4; rw [Int.tmod_eq_emod_of_nonneg (by omega)]; omega
@[go_sem] theorem uu_wrap64 (a : BitVec 32) : wrap64 (uu a) = uu a := by have := uu_bounds a; rw [wrap64_eq]; omega
@[go_sem] theorem uu_wrap32 (a : BitVec 32) : uu a % 4294967296 = uu a := by have := uu_bounds a; omega

/-- What the variable 'halves' holds. -/
def Halves (w : World) : Prop := ∀ k, k < 16 → w.cell? ⟨0, k, none⟩ = some (.int .u32 (uu (hv k)))

theorem Halves.below {w w' : World} (h : Halves w) (k : Below w.heap.size w w') : Halves w' := by
  intro i hi
  have hb := World.block_lt_of_cell? w _ (h i hi)
  rw [World.cell?_of_block (k.block 0 hb)]
  exact h i hi
theorem more_walk (s : BitVec 32) (l : List UInt8) (hl : l.length ≤ 140737488351232) (w : World) (ht : Halves w) :
    Calls Tryd.prog 18 #[.int .i64 (uu s), .string (bs l)] w fun e w' => e = .returned (.int .i64 (uu (C2.more s l))) ∧ w = w' := by
  have hs := uu_bounds s
  go_enter Tryd.func18, Tryd.ntmps18
  go_wp2
  go_loop [5, 12] (fun v5 v12 => ∃ i : Nat, i ≤ l.length ∧ v12 = .int .i64 i ∧ v5 = .int .u32 (uu (reg (s ^^^ all1) (l.take i)))) (fun v5 v12 => (l.length - intOf v12).toNat)
  case atStart =>
    exact ⟨0, by omega, rfl, rfl⟩
  case round =>
    obtain ⟨i, hi, rfl, rfl⟩ := hrel
    by_cases h : i < l.length
    · have hr := reg_snoc (s ^^^ all1) l i h
      generalize reg (s ^^^ all1) (l.take i) = c at hr ⊢
      have b1 := lo4_lt (c ^^^ w8 (at32 l i))
      have b2 := lo4_lt ((c ^^^ w8 (at32 l i)) >>> 4 ^^^ hv (lo4 (c ^^^ w8 (at32 l i))))
      have hc1 := ht _ b1
      have hc2 := ht _ b2
      have HR := Lib.hid hr; clear hr
      go_wp2
      go_round
      case measure => simp [intOf]; omega
      case rel =>
        refine ⟨i + 1, by omega, by simp, ?_⟩
        rw [HR.out, ← half_half, ← at32_get l i h]
        rfl
    · obtain rfl : i = l.length := by omega
      rw [List.take_length]
      go_wp2
      go_ret
      exact ⟨rfl, rfl⟩
theorem sum_walk (l : List UInt8) (hl : l.length ≤ 140737488351232) (w : World) (ht : Halves w) :
    Calls Tryd.prog 11 #[.string (bs l)] w fun e w' => e = .returned (.int .i64 (uu (C2.sum l))) ∧ w = w' := by
  go_enter Tryd.func11, Tryd.ntmps11
  go_wp2_with fail
  refine (more_walk 0#32 l hl w ht).mono ?_
  rintro e w1 ⟨rfl, rfl⟩
  go_wp2
  go_ret
  exact ⟨rfl, rfl⟩

def isS (n : Int) : Bool := decide (0 ≤ n ∧ n ≤ 4294967295)
theorem isSum_walk (n : Int) (w : World) :
    Calls Tryd.prog 17 #[.int .i64 n] w fun e w' => e = .returned (.bool (isS n)) ∧ w = w' := by
  unfold isS
  by_cases h0 : 0 ≤ n
  · by_cases h1 : n ≤ 4294967295
    · rw [decide_eq_true (⟨h0, h1⟩ : 0 ≤ n ∧ n ≤ 4294967295)]
      go_enter Tryd.func17, Tryd.ntmps17
      go_wp2
      go_ret
      exact ⟨rfl, rfl⟩
    · rw [decide_eq_false (fun h => h1 h.2)]
      go_enter Tryd.func17, Tryd.ntmps17
      go_wp2
      go_ret
      exact ⟨rfl, rfl⟩
  · rw [decide_eq_false (fun h => h0 h.1)]
    go_enter Tryd.func17, Tryd.ntmps17
    go_wp2
    go_ret
    exact ⟨rfl, rfl⟩

/-- A number that may be a sum is one. -/
theorem uu_of (n : Int) (h0 : 0 ≤ n) (h1 : n ≤ 4294967295) : n = uu (BitVec.ofNat 32 n.toNat) := by
  unfold uu; rw [BitVec.toNat_ofNat]; omega
theorem isS_uu (c : BitVec 32) : isS (uu c) = true := by have := uu_bounds c; unfold isS; exact decide_eq_true this

theorem moreOk_walk (s : BitVec 32) (l : List UInt8) (hl : l.length ≤ 140737488351232) (w : World) (ht : Halves w) :
    Calls Tryd.prog 7 #[.int .i64 (uu s), .string (bs l)] w fun e w' => e = .returned (.tuple #[.int .i64 (uu (C2.more s l)), .int .i64 0]) ∧ w = w' := by
  go_enter Tryd.func7, Tryd.ntmps7
  go_wp2_with fail
  refine (isSum_walk (uu s) w).mono ?_
  rintro e w1 ⟨rfl, rfl⟩
  rw [isS_uu]
  go_wp2_with fail
  refine (more_walk s l hl w ht).mono ?_
  rintro e w1 ⟨rfl, rfl⟩
  go_wp2
  go_ret2
  exact ⟨rfl, rfl⟩
theorem moreNo_walk (n : Int) (l : List UInt8) (hn : isS n = false) (w : World) :
    Calls Tryd.prog 7 #[.int .i64 n, .string (bs l)] w fun e w' => e = .returned (.tuple #[.int .i64 0, .int .i64 1]) ∧ w = w' := by
  go_enter Tryd.func7, Tryd.ntmps7
  go_wp2_with fail
  refine (isSum_walk n w).mono ?_
  rintro e w1 ⟨rfl, rfl⟩
  rw [hn]
  go_wp2
  go_ret2
  exact ⟨rfl, rfl⟩

/-! ### The sum as bytes -/
/-- The cells of the block that 'tag' fills. -/
def tg (c : BitVec 32) (i : Nat) : Value := .int .u8 ((leb c i).toNat : Int)
theorem leb_eq (c : BitVec 32) (i : Nat) : ((leb c i).toNat : Int) = uu c / ((256 ^ i : Nat) : Int) % 256 := by
  unfold leb uu
  rw [b8_toNat _ (by omega)]
  simp
def TRel (w : World) (c : BitVec 32) (vi : Value) (wr : World) : Prop :=
  ∃ (i : Nat) (C : Array Value), i ≤ 4 ∧ vi = .int .i64 i ∧ wr.heap[w.heap.size]? = some (.cells C 44 (0, 0)) ∧ C.size = 4 ∧ (∀ j, j < i → C[j]? = some (tg c j)) ∧ Below w.heap.size w wr

theorem tag_walk (l : List UInt8) (hl : l.length ≤ 140737488351232) (w : World) (ht : Halves w) :
    Calls Tryd.prog 20 #[.string (bs l)] w fun e w' => e = .returned (.string (bs (le4 (C2.sum l)))) ∧ Below w.heap.size w w' := by
  have hS := sum_walk l hl w ht
  generalize C2.sum l = c at hS ⊢
  go_enter Tryd.func20, Tryd.ntmps20
  go_wp2_with fail
  refine hS.mono ?_
  rintro e w1 ⟨rfl, rfl⟩
  go_wp2
  go_loopw [8] (fun v8 wr => TRel w c v8 wr) (fun v8 wr => 4 - (intOf v8).toNat)
  case atStart =>
    exact ⟨0, _, by omega, rfl, rowNew _ _, rfl, fun j hj => by omega, (Below.refl _ _).alloc (Nat.le_refl _) _⟩
  case round =>
    obtain ⟨i, C, hi, rfl, hC, hs, hj, hb⟩ := hrel
    have hub := uu_bounds c
    by_cases h : i < 4
    · obtain ⟨x, hcell⟩ : ∃ x, wr.cell? ⟨w.heap.size, i, none⟩ = some x := ⟨C[i]'(by omega), by simp [World.cell?, hC]⟩
      have hfr : wr.frozen? ⟨w.heap.size, i, none⟩ = false := freeRow hC i
      have HC := Lib.hid hC; have Hs := Lib.hid hs; have Hj := Lib.hid hj; clear hC hs hj
      obtain rfl | rfl | rfl | rfl : i = 0 ∨ i = 1 ∨ i = 2 ∨ i = 3 := by omega
      all_goals
        go_wp2
        go_roundw
        case measure => simp [intOf]
        case rel =>
          first
            | refine ⟨1, _, by omega, rfl, rowSet HC.out _ _, by simp [Hs.out], ?_, hb.setCell (Nat.le_refl _) _⟩
            | refine ⟨2, _, by omega, rfl, rowSet HC.out _ _, by simp [Hs.out], ?_, hb.setCell (Nat.le_refl _) _⟩
            | refine ⟨3, _, by omega, rfl, rowSet HC.out _ _, by simp [Hs.out], ?_, hb.setCell (Nat.le_refl _) _⟩
            | refine ⟨4, _, by omega, rfl, rowSet HC.out _ _, by simp [Hs.out], ?_, hb.setCell (Nat.le_refl _) _⟩
          intro j hj
          rw [Array.getElem?_setIfInBounds]
          split
          · rename_i hji
            subst hji
            rw [if_pos (by rw [Hs.out]; omega)]
            unfold tg; rw [leb_eq]; simp <;> omega
          · exact Hj.out j (by omega)
    · obtain rfl : i = 4 := by omega
      have htl : tailIs C 0 (le4 c) := by
        unfold tailIs
        rw [List.drop_zero]
        apply List.ext_getElem?
        intro j
        rw [Array.getElem?_toList]
        by_cases h4 : j < 4
        · rw [hj j h4]
          obtain rfl | rfl | rfl | rfl : j = 0 ∨ j = 1 ∨ j = 2 ∨ j = 3 := by omega
          all_goals rfl
        · rw [Array.getElem?_eq_none (by omega), List.getElem?_eq_none (by simp [le4]; omega)]
      have hcv := run_conv_tail (P := Tryd.prog) wr 34 5 9 Tryd.underlying34 Tryd.underlying5 Tryd.underlying9 hC htl 4 4 rfl
      have hsl := run_sliceAt_arr_n (P := Tryd.prog) wr 44 5 4 Tryd.underlying44 (by kernel_rfl) w.heap.size (by omega)
      clear hC hs hj htl
      go_wp2
      go_ret
      exact ⟨rfl, hb⟩

theorem Below_tr {a b c : World} (h : Below a.heap.size a b) (k : Below b.heap.size b c) : Below a.heap.size a c :=
  ⟨k.os.trans h.os, k.tape.trans h.tape, k.output.trans h.output, Nat.le_trans h.size k.size, fun i hi => (k.block i (Nat.lt_of_lt_of_le hi h.size)).trans (h.block i hi)⟩
theorem Below_ofDrew {B : Nat} {a b : World} {n : Nat} (h : Below B (a.drewN n) b) : Below B a b := ⟨h.os, h.tape, h.output, h.size, h.block⟩
theorem Below_drewN {B : Nat} {a b : World} (h : Below B a b) (n : Nat) : Below B a (b.drewN n) := ⟨h.os, h.tape, h.output, h.size, h.block⟩
theorem Below_drew {B : Nat} {a b : World} (h : Below B a b) : Below B a b.drew := ⟨h.os, h.tape, h.output, h.size, h.block⟩
theorem Below_ofDrew1 {B : Nat} {a b : World} (h : Below B a.drew b) : Below B a b := ⟨h.os, h.tape, h.output, h.size, h.block⟩

theorem Tag_walk (l : List UInt8) (hl : l.length ≤ 70368744177664) (w : World) (ht : Halves w) :
    Calls Tryd.prog 13 #[.string (bs l)] w fun e w' => e = .returned (.string (bs (l ++ le4 (C2.sum l)))) ∧ Below w.heap.size w w' := by
  have h4 : (le4 (C2.sum l)).length = 4 := rfl
  have hT := tag_walk l (by omega) w ht
  generalize le4 (C2.sum l) = t at h4 hT ⊢
  go_enter Tryd.func13, Tryd.ntmps13
  go_wp2_with fail
  refine hT.mono ?_
  rintro e w1 ⟨rfl, hb⟩
  go_wp2
  go_ret
  exact ⟨rfl, hb⟩

/-- What Open answers. -/
def opn (l : List UInt8) : Option (List UInt8) :=
  if l.length < 4 then none else if le4 (C2.sum (l.take (l.length - 4))) = l.drop (l.length - 4) then some (l.take (l.length - 4)) else none
def opV (o : Option (List UInt8)) : Value := match o with
  | none => .tuple #[.string (bs []), .bool false]
  | some l => .tuple #[.string (bs l), .bool true]
theorem open_walk (l : List UInt8) (hl : l.length ≤ 70368744177664) (w : World) (ht : Halves w) :
    Calls Tryd.prog 9 #[.string (bs l)] w fun e w' => e = .returned (opV (opn l)) ∧ Below w.heap.size w w' := by
  by_cases h : l.length < 4
  · have ho : opn l = none := by unfold opn; rw [if_pos h]
    rw [ho]
    have hd : decide (((l.length : Nat) : Int) - 4 < 0) = true := decide_eq_true (by omega)
    go_enter Tryd.func9, Tryd.ntmps9
    go_wp2_with fail
    go_quiet (fail)
    go_wp2
    go_ret2
    exact ⟨rfl, Below_drewN (Below.refl _ _) _⟩
  · obtain ⟨k, hk⟩ : ∃ k, l.length = k + 4 := ⟨l.length - 4, by omega⟩
    have hd : decide (((k : Nat) : Int) < 0) = false := decide_eq_false (by omega)
    have he4 : ((l.length : Nat) : Int) - 4 = (k : Int) := by omega
    have hT := tag_walk (l.take k) (by simp; omega)
    have ho : opn l = if le4 (C2.sum (l.take k)) = l.drop k then some (l.take k) else none := by unfold opn; rw [if_neg h, show l.length - 4 = k by omega]
    rw [ho]
    generalize le4 (C2.sum (l.take k)) = t at hT ⊢
    have hk0 : (0 : Int) ≤ (k : Int) := by omega
    have hk1 : (k : Int) ≤ (l.length : Nat) := by omega
    have hwr : IntKind.i64.wrap (((l.length : Nat) : Int) - 4) = (k : Int) := by rw [he4]; exact IntWalk.i64_in _ (by omega)
    have HE := Lib.hid he4
    have HT := Lib.hid hT; clear hT ho he4 hk h
    by_cases he : t = l.drop k
    all_goals
      first
        | (rw [if_pos he]; have hq : (t == l.drop k) = true := beq_iff_eq.2 he)
        | (rw [if_neg he]; have hq : (t == l.drop k) = false := beq_eq_false_iff_ne.2 he)
      clear he
      go_enter Tryd.func9, Tryd.ntmps9
      go_wp2_with fail
      go_region_held3 (fun w' => Halves w') (first | exact ht | exact z1) (first | (go_at_call 20; refine (HT.out _ ?_).mono ?_; exact ht; rintro e x1 ⟨rfl, k1⟩; have z1 := Halves.below ht (Below_ofDrew k1)))
      go_wp2
      go_ret2
      exact ⟨rfl, Below_ofDrew1 k1⟩
end Go.Proofs.YtengpepapoainaaDoor
