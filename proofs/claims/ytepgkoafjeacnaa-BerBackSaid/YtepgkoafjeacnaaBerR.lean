/- The document's own writing of elements and numbers, walked. -/
import Derived.Test.YtepgkoafjeacnaaRows
import Derived.Test.YtepgkoafjeacnaaBerN
import Derived.Test.YtepgkoafjeacnaaPad
import Derived.ProofKit
import Derived.IntWalk
import Derived.Deep.LoopGhost
import Derived.Deep.RegionHeld3
namespace Go.Proofs.Ytepgkoafjeacnaa
open Go.ChangeShapes Go.WideShapes Go.ChangeAt Go.RowKit K P1 B5
set_option linter.unusedVariables false

theorem Below_ofDrewA {B : Nat} {a b : World} {n : Nat} (h : Below B (a.drewN n) b) : Below B a b := ⟨h.os, h.tape, h.output, h.size, h.block⟩
theorem Below_ofDrewB {B : Nat} {a b : World} (h : Below B a.drew b) : Below B a b := ⟨h.os, h.tape, h.output, h.size, h.block⟩
theorem run_conv_drew {P : Program} (src e dst : TypeId) (hs : P.underlying src = some (.slice e)) (he : P.underlying e = some (.int .u8)) (hd : P.underlying dst = some .string) :
    ∀ (w : World) (x : Int), (convert src dst (.slice (some ⟨w.heap.size, 0, none⟩) 1 1)).run P (w.alloc (.cells #[.int .u8 x] e)).drew = .ok (.string (bs [b8 x.toNat])) (w.alloc (.cells #[.int .u8 x] e)).drew := by
  intro w x
  rw [run_convert_bytes_arg (P := P) (w.alloc (.cells #[.int .u8 x] e)).drew src e hs he w.heap.size 0 1 1 [x] rfl _ dst hd]
  · rfl
  · intro i hi
    obtain rfl : i = 0 := by omega
    show (w.alloc (.cells #[.int .u8 x] e)).cell? _ = _
    rw [cellRow (rowNew w _)]
    rfl
theorem run_conv_kept {P : Program} {src e dst : TypeId} (hs : P.underlying src = some (.slice e)) (he : P.underlying e = some (.int .u8)) (hd : P.underlying dst = some .string)
    {w x1 : World} {x : Int} (k : Below (w.alloc (.cells #[.int .u8 x] e)).drew.heap.size (w.alloc (.cells #[.int .u8 x] e)).drew x1) :
    (convert src dst (.slice (some ⟨w.heap.size, 0, none⟩) 1 1)).run P x1 = .ok (.string (bs [b8 x.toNat])) x1 := by
  rw [run_convert_bytes_arg (P := P) x1 src e hs he w.heap.size 0 1 1 [x] rfl _ dst hd]
  · rfl
  · intro i hi
    obtain rfl : i = 0 := by omega
    have hb : (w.alloc (.cells #[.int .u8 x] e)).drew.heap[w.heap.size]? = some (.cells #[.int .u8 x] e (0, 0)) := rowNew w _
    rw [cellRow ((k.block _ (lt_of_block hb)).trans hb)]
    rfl
/-- Whatever was made ahead of the call, and behind it. -/
theorem Below_res {w x1 : World} {o : Obj} (k : Below (w.alloc o).drew.heap.size (w.alloc o).drew x1) : Below w.heap.size w x1 :=
  ((Below.refl w.heap.size w).alloc (Nat.le_refl _) o).trans (Below.mono (Below_ofDrewB k) (by show w.heap.size ≤ (w.alloc o).heap.size; simp))
theorem Below_res2 {w x1 : World} {o : Obj} (k : Below w.drew.heap.size w.drew x1) : Below w.heap.size w (x1.alloc o) :=
  (Below_ofDrewB k).alloc k.size o
/-- Whether a number is a tag. -/
def isTi (t : Int) : Bool := decide (0 ≤ t) && (decide (t ≤ 255) && isTag t.toNat)
theorem qistag_walk (t : Int) (w : World) :
    Calls Try.prog 24 #[.int .i64 t] w fun e w' => e = .returned (.bool (isTi t)) ∧ w = w' := by
  by_cases h0 : 0 ≤ t
  · by_cases h1 : t ≤ 255
    · have e : isTi t = (t % 32 != 31) := by
        unfold isTi isTag
        rw [decide_eq_true h0, decide_eq_true h1, Bool.true_and, Bool.true_and, Bool.eq_iff_iff, bne_iff_ne, bne_iff_ne]; omega
      rw [e]; clear e
      go_enter Try.func24, Try.ntmps24
      go_wp2
      all_goals (go_ret; exact ⟨rfl, rfl⟩)
    · have e : isTi t = false := by unfold isTi; rw [decide_eq_false h1, Bool.false_and, Bool.and_false]
      rw [e]
      have h1' : 256 ≤ t := by omega
      clear h1 e
      go_enter Try.func24, Try.ntmps24
      go_wp2
      go_ret
      exact ⟨rfl, rfl⟩
  · have e : isTi t = false := by unfold isTi; rw [decide_eq_false h0, Bool.false_and]
    rw [e]
    have h0' : t ≤ -1 := by omega
    clear h0 e
    go_enter Try.func24, Try.ntmps24
    go_wp2
    go_ret
    exact ⟨rfl, rfl⟩
theorem kb_step {n k : Nat} (hn : n < 4294967296) (h1 : 1 ≤ k) (h4 : k ≤ 4) : (k < kb n → 0 < n / 256 ^ k) ∧ (kb n ≤ k → n / 256 ^ k = 0) := by
  constructor
  · intro h
    rcases Nat.eq_zero_or_pos (n / 256 ^ k) with h0 | h0
    · have := kb_least n k (Nat.lt_of_div_eq_zero (Nat.pow_pos (by omega)) h0) h1 h4
      omega
    · exact h0
  · intro h
    have hf := kb_fits n hn
    have hm : 256 ^ kb n ≤ 256 ^ k := Nat.pow_le_pow_right (by omega) h
    exact Nat.div_eq_of_lt (by omega)
def QsRel (n : Nat) (w : World) (g : Nat) (v3 : Value) (wr : World) : Prop := ∃ k, k + g = kb n ∧ 1 ≤ k ∧ v3 = .int .i64 (k : Nat) ∧ wr = w
set_option maxRecDepth 100000 in
theorem qshort_walk (n : Nat) (hn : n < 4294967296) (w : World) :
    Calls Try.prog 40 #[.int .i64 n] w fun e w' => e = .returned (.string (bs (short n))) ∧ Below w.heap.size w w' := by
  by_cases h : n < 128
  · have e : short n = [b8 n] := by unfold short; rw [if_pos h]
    rw [e]
    have hcv := run_conv_one (P := Try.prog) 52 5 9 Try.underlying52 Try.underlying5 Try.underlying9
    have h' : (n : Int) < 128 := by omega
    clear hn e
    go_enter Try.func40, Try.ntmps40
    go_wp2
    go_ret
    exact ⟨rfl, (Below.refl _ _).alloc (Nat.le_refl _) _⟩
  · have e : short n = [b8 (128 + kb n)] ++ pad (kb n) n := by unfold short; rw [if_neg h]; rfl
    have HE := Lib.hid e
    have hkb := kb_pos n
    have HST := Lib.hid (fun k h1 h4 => @kb_step n k hn h1 h4)
    have HP := Lib.hid (fun w1 => padded_walk n (kb n) (by omega) (by omega) w1)
    have hpl := pad_length (kb n) n
    have hpl4 : (pad (kb n) n).length ≤ 4 := by omega
    have hcv := run_conv_one (P := Try.prog) 52 5 9 Try.underlying52 Try.underlying5 Try.underlying9
    have hcd := run_conv_drew (P := Try.prog) 52 5 9 Try.underlying52 Try.underlying5 Try.underlying9
    generalize pad (kb n) n = PD at *
    obtain ⟨z, hz⟩ : ∃ z : Int, (n : Int) = z := ⟨_, rfl⟩
    have hz0 : 128 ≤ z := by omega
    have hz1 : z < 4294967296 := by omega
    have HZ := Lib.hid hz
    clear e hpl h hn
    rw [hz]
    rw [hz] at HP
    clear hz
    go_enter Try.func40, Try.ntmps40
    go_wp2
    go_loopg [3] (kb n - 1) (fun g v3 wr => QsRel n w g v3 wr)
    case atStart => exact ⟨1, by omega, by omega, rfl, rfl⟩
    case round =>
      obtain ⟨k, hkg, hk1, rfl, rfl⟩ := hrel
      obtain ⟨s1, s2⟩ := HST.out k hk1 (by omega)
      have hpw : (2 : Int) ^ (8 * k) = ((256 ^ k : Nat) : Int) := by
        rw [Int.pow_mul]; simp
      have hqz : z / 2 ^ (8 * k) = ((n / 256 ^ k : Nat) : Int) := by rw [hpw, ← HZ.out]; simp
      cases gk with
      | zero =>
        have hk4 : k ≤ 4 := by omega
        have hq1 : z / 2 ^ (8 * k) ≤ 0 := by rw [hqz, s2 (by omega)]; simp
        obtain rfl : k = kb n := by omega
        have e1 : IntKind.i64.wrap (128 + ((kb n : Nat) : Int)) = 128 + ((kb n : Nat) : Int) := IntWalk.i64_in _ (by omega)
        have e2 : IntKind.u8.wrap (128 + ((kb n : Nat) : Int)) = 128 + ((kb n : Nat) : Int) := IntWalk.u8_in _ (by omega)
        have e3 : (128 + ((kb n : Nat) : Int)).toNat = 128 + kb n := by omega
        have hcat : (9223372036854775807 < 1 + PD.length) = False := eq_false (by omega)
        clear hqz hpw s1 s2 hkg hk1
        go_wp2_with fail
        go_region_with (first | (go_at_call 51; refine (HP.out _).mono ?_; rintro e x1 ⟨rfl, k1⟩; try (have z1 := run_conv_kept (P := Try.prog) (src := 52) (dst := 9) Try.underlying52 Try.underlying5 Try.underlying9 k1)))
        all_goals
          go_wp2
          go_ret
          refine ⟨?_, by first | exact Below_res k1 | exact Below_res2 k1⟩
          rw [HE.out]
          rfl
      | succ g =>
        have hq1 : 0 < z / 2 ^ (8 * k) := by rw [hqz]; have := s1 (by omega); omega
        clear hqz hpw s1 s2
        go_wp2
        go_roundg g
        case measure => omega
        case rel => exact ⟨k + 1, by omega, by omega, by simp, rfl⟩
set_option maxRecDepth 100000 in
theorem qput_walk (t : Nat) (ht : t < 256) (b : List UInt8) (hb : b.length < 4294967296) (w : World) :
    Calls Try.prog 25 #[.int .i64 t, .string (bs b)] w fun e w' => e = .returned (.string (bs (put t b))) ∧ Below w.heap.size w w' := by
  have HE := Lib.hid (show put t b = [b8 t] ++ short b.length ++ b from rfl)
  have HS := Lib.hid (fun w1 => qshort_walk b.length hb w1)
  have hsl : (short b.length).length ≤ 5 := by
    rw [short_len]; have := kb_pos b.length
    by_cases h : b.length < 128
    · rw [if_pos h]; omega
    · rw [if_neg h]; omega
  have hcv := run_conv_one (P := Try.prog) 52 5 9 Try.underlying52 Try.underlying5 Try.underlying9
  have hcd := run_conv_drew (P := Try.prog) 52 5 9 Try.underlying52 Try.underlying5 Try.underlying9
  have e2 : IntKind.u8.wrap (t : Int) = (t : Int) := IntWalk.u8_in _ (by omega)
  have hbl : b.length ≤ 4294967296 := by omega
  generalize short b.length = SH at *
  clear hb
  go_enter Try.func25, Try.ntmps25
  go_wp2_with fail
  go_region_with (first | (go_at_call 40; refine (HS.out _).mono ?_; rintro e x1 ⟨rfl, k1⟩; try (have z1 := run_conv_kept (P := Try.prog) (src := 52) (dst := 9) Try.underlying52 Try.underlying5 Try.underlying9 k1)))
  all_goals
    go_wp2
    go_ret
    refine ⟨?_, by first | exact Below_res k1 | exact Below_res2 k1⟩
    rw [HE.out]
    rfl
def wrT (t : Int) (b : List UInt8) : List UInt8 := if isTi t then (if 16777216 < b.length then [] else put t.toNat b) else []
def wrE (t : Int) (b : List UInt8) : Nat := if isTi t then (if 16777216 < b.length then 2 else 0) else 1
theorem isTi_nat {t : Int} (h : isTi t = true) : ∃ k : Nat, t = (k : Int) ∧ k < 256 ∧ isTag k = true := by
  unfold isTi at h
  simp only [Bool.and_eq_true, decide_eq_true_eq] at h
  exact ⟨t.toNat, by omega, by omega, h.2.2⟩
theorem qwrap_walk (t : Int) (b : List UInt8) (hb : b.length ≤ 140737488351232) (w : World) :
    Calls Try.prog 9 #[.int .i64 t, .string (bs b)] w fun e w' => e = .returned (.tuple #[.string (bs (wrT t b)), .int .i64 (wrE t b : Nat)]) ∧ Below w.heap.size w w' := by
  have hI := qistag_walk t w
  cases hi : isTi t
  · have e1 : wrT t b = [] ∧ wrE t b = 1 := by unfold wrT wrE; rw [hi]; exact ⟨rfl, rfl⟩
    rw [e1.1, e1.2]
    rw [hi] at hI
    have HI := Lib.hid hI
    clear hI hi e1
    go_enter Try.func9, Try.ntmps9
    go_wp2_with fail
    refine HI.out.mono ?_
    rintro e w1 ⟨rfl, rfl⟩
    go_wp2
    go_ret2
    exact ⟨rfl, Below.refl _ _⟩
  · rw [hi] at hI
    have HI := Lib.hid hI
    obtain ⟨k, rfl, hk, _⟩ := isTi_nat hi
    by_cases hl : 16777216 < b.length
    · have e1 : wrT (k : Int) b = [] ∧ wrE (k : Int) b = 2 := by unfold wrT wrE; rw [hi, if_pos rfl, if_pos hl, if_pos rfl, if_pos hl]; exact ⟨rfl, rfl⟩
      rw [e1.1, e1.2]
      obtain ⟨z, hz⟩ : ∃ z : Int, ((b.length : Nat) : Int) = z := ⟨_, rfl⟩
      have hl' : (16777216 : Int) < ((b.length : Nat) : Int) := by omega
      clear hI hi e1 hl hz
      go_enter Try.func9, Try.ntmps9
      go_wp2_with fail
      refine HI.out.mono ?_
      rintro e w1 ⟨rfl, rfl⟩
      go_wp2
      go_ret2
      exact ⟨rfl, Below.refl _ _⟩
    · have e1 : wrT (k : Int) b = put k b ∧ wrE (k : Int) b = 0 := by unfold wrT wrE; rw [hi, if_pos rfl, if_neg hl, if_pos rfl, if_neg hl]; exact ⟨by simp, rfl⟩
      rw [e1.1, e1.2]
      have HP := Lib.hid (qput_walk k hk b (by omega) w)
      have hl' : ((b.length : Nat) : Int) ≤ 16777216 := by omega
      clear hI hi e1 hl
      generalize put k b = X at *
      go_enter Try.func9, Try.ntmps9
      go_wp2_with fail
      refine HI.out.mono ?_
      rintro e w1 ⟨rfl, rfl⟩
      go_wp2_with fail
      refine HP.out.mono ?_
      rintro e w1 ⟨rfl, hb1⟩
      go_wp2
      go_ret2
      exact ⟨rfl, hb1⟩
end Go.Proofs.Ytepgkoafjeacnaa
