/- Two hexadecimal digits as a number: the library's ParseUint at base 16 and eight bits, walked at texts of two bytes. -/
import Derived.Test.YtkobjbmjefkmgaaDoorLexP
import Derived.Test.YtkobjbmjefkmgaaDoorRows
import Derived.Test.YtkobjbmjefkmgaaDoorLib
import Derived.WalkKit
import Derived.BigCall
import Derived.BigGuard
import Derived.ProofKit
import Derived.OpenShut
import Derived.ShutString
namespace Go.Proofs.YtkobjbmjefkmgaaDoor
open Go.ChangeShapes Go.WideShapes Go.ChangeAt Go.RowKit K L14
set_option linter.unusedVariables false

theorem hex_cls : ∀ n : Fin 256, (48 ≤ n.val ∧ n.val ≤ 57 ∧ nib n.val = some (n.val - 48)) ∨ ((¬ (48 ≤ n.val ∧ n.val ≤ 57) ∧ n.val ≠ 95) ∧ 97 ≤ (n.val ||| 32) ∧ (n.val ||| 32) ≤ 102 ∧ nib n.val = some ((n.val ||| 32) - 87)) ∨
    ((¬ (48 ≤ n.val ∧ n.val ≤ 57) ∧ n.val ≠ 95) ∧ 103 ≤ (n.val ||| 32) ∧ (n.val ||| 32) ≤ 122 ∧ nib n.val = none) ∨ (¬ (48 ≤ n.val ∧ n.val ≤ 57) ∧ ((n.val ||| 32) < 97 ∨ 122 < (n.val ||| 32)) ∧ nib n.val = none) := by decide +kernel
theorem low_bits : ∀ n : Fin 256, bits .or .u8 (n.val : Int) 32 = ((n.val ||| 32 : Nat) : Int) ∧ (n.val ||| 32) < 256 := by decide +kernel
set_option maxRecDepth 100000 in
theorem lower16_walk (n : Nat) (hn : n < 256) (w : World) : Calls Tryd.prog 80 #[.int .u8 (n : Nat)] w fun e w' => e = .returned (.int .u8 ((n ||| 32 : Nat) : Int)) ∧ w = w' := by
  have hb := Lib.hid (low_bits ⟨n, hn⟩).1
  have h0 := bits_lo_u8 .or ((n : Nat) : Int) 32
  have h1 := bits_hi_u8 .or ((n : Nat) : Int) 32
  go_enter Tryd.func80, Tryd.ntmps80
  go_wp2
  go_ret
  exact ⟨by rw [show bits .or .u8 ((n : Nat) : Int) 32 = ((n ||| 32 : Nat) : Int) from hb.out]; rfl, rfl⟩
/-- What two digits tell, so far. -/
def HxR (c d : Nat) (k acc : Nat) : Prop := (k = 0 ∧ acc = 0) ∨ (k = 1 ∧ nib c = some acc) ∨ (k = 2 ∧ ∃ a b, nib c = some a ∧ nib d = some b ∧ acc = a * 16 + b)
/-- The value of two digits. -/
def hex2 (c d : Nat) : Option Nat := match nib c, nib d with | some a, some b => some (a * 16 + b) | _, _ => none
theorem nib_lt {c a : Nat} (h : nib c = some a) : a < 16 := by
  unfold nib at h
  split at h
  · next h1 => unfold dgN at h1; simp only [Bool.and_eq_true, decide_eq_true_eq] at h1; injection h with h; omega
  · split at h
    · injection h with h; omega
    · split at h
      · injection h with h; omega
      · cases h
/-- The library's answer. -/
def HxV (c d : Nat) : Value := match hex2 c d with | some v => .tuple #[.int .u64 (v : Nat), .nilIface] | none => .tuple #[.int .u64 0, .iface 113 (.int .i64 2)]
theorem hx_step {c d k acc n v : Nat} (h : HxR c d k acc) (hk : k < 2) (hn : n = if k = 0 then c else d) (hv : nib n = some v) : HxR c d (k + 1) (acc * 16 + v) ∧ acc * 16 + v ≤ 255 := by
  have := nib_lt hv
  rcases h with ⟨rfl, rfl⟩ | ⟨rfl, h⟩ | ⟨rfl, h⟩
  · rw [if_pos rfl] at hn; subst hn
    exact ⟨.inr (.inl ⟨rfl, by rw [hv]; simp⟩), by omega⟩
  · rw [if_neg (by decide)] at hn; subst hn
    have := nib_lt h
    exact ⟨.inr (.inr ⟨rfl, _, _, h, hv, rfl⟩), by omega⟩
  · omega
theorem hx_none {c d k acc n : Nat} (h : HxR c d k acc) (hk : k < 2) (hn : n = if k = 0 then c else d) (hv : nib n = none) : HxV c d = .tuple #[.int .u64 0, .iface 113 (.int .i64 2)] := by
  have e : hex2 c d = none := by
    unfold hex2
    rcases h with ⟨rfl, rfl⟩ | ⟨rfl, h⟩ | ⟨rfl, h⟩
    · rw [if_pos rfl] at hn; subst hn; rw [hv]
    · rw [if_neg (by decide)] at hn; subst hn; rw [hv]; cases nib c <;> rfl
    · omega
  unfold HxV; rw [e]
theorem hx_some {c d acc : Nat} (h : HxR c d 2 acc) : HxV c d = .tuple #[.int .u64 (acc : Nat), .nilIface] := by
  rcases h with ⟨h, _⟩ | ⟨h, _⟩ | ⟨_, a, b, h1, h2, rfl⟩
  · omega
  · omega
  · unfold HxV hex2; rw [h1, h2]
set_option maxHeartbeats 32000000 in
set_option maxRecDepth 100000 in
theorem hexint_walk (x y : UInt8) (w : World) :
    Calls Tryd.prog 78 #[.string (bs [x, y]), .int .i64 16, .int .i64 8] w fun e w' => e = .returned (HxV x.toNat y.toNat) ∧ Below w.heap.size w w' := by
  have hx := x.toNat_lt
  have hy := y.toNat_lt
  have HX : ∀ (k acc : Nat), HxR x.toNat y.toNat k acc → k < 2 → HxR x.toNat y.toNat k acc := fun _ _ h _ => h
  have hcv := Lib.run_convert_string_bytes (P := Tryd.prog) w 9 56 5 (bs [x, y]) (u := .string) Tryd.underlying9 Tryd.underlying56 Tryd.underlying5
  have hB : ∀ k, k < 2 → (Lib.bytesWorld w 5 (bs [x, y])).cell? ⟨w.heap.size, k, none⟩ = some (.int .u8 ((if k = 0 then x.toNat else y.toNat : Nat) : Int)) := by
    intro k hk
    rw [bytes_cell w 5 [x, y] k (by simpa using hk)]
    obtain rfl | rfl : k = 0 ∨ k = 1 := by omega
    · rfl
    · rfl
  have hbl : Below w.heap.size w (Lib.bytesWorld w 5 (bs [x, y])) := (Kp.bytes (Kp.refl [] w) 5 (bs [x, y])).below (Nat.le_refl _) (by simp)
  obtain ⟨W1, hW1⟩ : ∃ W1, W1 = Lib.bytesWorld w 5 (bs [x, y]) := ⟨_, rfl⟩
  rw [← hW1] at hcv hB hbl
  have HBL := Lib.hid hbl
  have HB := Lib.hid hB
  have hsz : (bs [x, y]).size = 2 := rfl
  have hemp : (bs [x, y]).toList.isEmpty = false := by rw [bs_list]; rfl
  have hmv : IntKind.u64.wrap (IntKind.u64.wrap 256 - 1) = 255 := by
    rw [IntKind.wrap_u64, IntKind.wrap_u64]
    decide
  clear hW1 hbl hB HX
  generalize bs [x, y] = S at *
  go_enter Tryd.func78, Tryd.ntmps78
  go_wp2
  go_loop [12, 13, 101] (fun vu vn vi => ∃ (k acc : Nat) (a : Int), vu = .bool false ∧ vn = .int .u64 a ∧ vi = .int .i64 k ∧ k ≤ 2 ∧ Hid (a = (acc : Int) ∧ acc ≤ 255 ∧ (k < 2 → acc < 16) ∧ HxR x.toNat y.toNat k acc))
    (fun _ _ vi => 2 - (intOf vi).toNat)
  case atStart => exact ⟨0, 0, 0, rfl, rfl, rfl, by omega, rfl, by omega, by omega, .inl ⟨rfl, rfl⟩⟩
  case round =>
    obtain ⟨k, acc, a, rfl, rfl, rfl, hk, hh⟩ := hrel
    obtain ⟨ha, hacc, hac2, hR⟩ := hh.out
    clear hh
    have a0 : 0 ≤ a := by omega
    have a1 : a ≤ 255 := by omega
    by_cases hk2 : k < 2
    · have hc := HB.out k hk2
      have hn : (if k = 0 then x.toNat else y.toNat) < 256 := by split <;> omega
      have HST := Lib.hid (fun v h => hx_step (n := if k = 0 then x.toNat else y.toNat) (v := v) hR hk2 rfl h)
      have HNO := Lib.hid (fun h => hx_none (n := if k = 0 then x.toNat else y.toNat) hR hk2 rfl h)
      have hcl := hex_cls ⟨_, hn⟩
      simp only at hcl
      have hac3 : a < 16 := by have := hac2 hk2; omega
      have hk2i : ((k : Nat) : Int) < 2 := by omega
      generalize (if k = 0 then x.toNat else y.toNat) = n at *
      have HLW := Lib.hid (fun w1 => lower16_walk n hn w1)
      have hlb := (low_bits ⟨n, hn⟩).2
      simp only at hlb
      clear hac2 hR hx hy
      rcases hcl with ⟨c1, c2, c3⟩ | ⟨c0, c1, c2, c3⟩ | ⟨c0, c1, c2, c3⟩ | ⟨c0, c1, c3⟩
      · obtain ⟨h1, h2⟩ := HST.out _ c3
        have HN := Lib.hid (show Hid (a * 16 + (((n : Nat) : Int) - 48) = ((acc * 16 + (n - 48) : Nat) : Int) ∧ acc * 16 + (n - 48) ≤ 255 ∧ (k + 1 < 2 → acc * 16 + (n - 48) < 16) ∧ HxR x.toNat y.toNat (k + 1) (acc * 16 + (n - 48))) from Lib.hid ⟨by omega, h2, fun hk1 => by rcases h1 with ⟨q, _⟩ | ⟨q, q2⟩ | ⟨q, _⟩; omega; exact nib_lt q2; omega, h1⟩)
        have e1 : (48 : Int) ≤ ((n : Nat) : Int) := by omega
        have e2 : ((n : Nat) : Int) ≤ 57 := by omega
        have e3 : a * 16 + (((n : Nat) : Int) - 48) ≤ 255 := by omega
        clear HST HNO c1 c2 c3 h1 h2 ha hacc hlb hcv hemp
        go_wp2
        refine ⟨⟨k + 1, acc * 16 + (n - 48), a * 16 + (((n : Nat) : Int) - 48), rfl, (by first | rfl | (congr 1; omega)), (by first | rfl | (congr 1; omega)), by omega, HN.out⟩, by simp [intOf]; omega⟩
      · obtain ⟨h1, h2⟩ := HST.out _ c3
        have HN := Lib.hid (show Hid (a * 16 + (((n ||| 32 : Nat) : Int) - 97 + 10) = ((acc * 16 + ((n ||| 32) - 87) : Nat) : Int) ∧ acc * 16 + ((n ||| 32) - 87) ≤ 255 ∧ (k + 1 < 2 → acc * 16 + ((n ||| 32) - 87) < 16) ∧ HxR x.toNat y.toNat (k + 1) (acc * 16 + ((n ||| 32) - 87))) from Lib.hid ⟨by omega, h2, fun hk1 => by rcases h1 with ⟨q, _⟩ | ⟨q, q2⟩ | ⟨q, _⟩; omega; exact nib_lt q2; omega, h1⟩)
        have HU := Lib.hid (show ((n ||| 32 : Nat) : Int) - 97 + 10 < 16 ∧ a * 16 + (((n ||| 32 : Nat) : Int) - 97 + 10) ≤ 255 by omega)
        have e0 : ¬ (48 : Int) ≤ ((n : Nat) : Int) ∨ ¬ ((n : Nat) : Int) ≤ 57 := by omega
        have e5 : (((n : Nat) : Int) == 95) = false := by rw [beq_eq_false_iff_ne]; omega
        have e1 : (97 : Int) ≤ ((n ||| 32 : Nat) : Int) := by omega
        have e2 : ((n ||| 32 : Nat) : Int) ≤ 122 := by omega
        clear HST HNO c0 c1 c2 c3 h1 h2 ha hacc hcv hemp
        generalize n ||| 32 = z at *
        obtain ⟨e3, e4⟩ := HU.out
        clear HU
        rcases e0 with e0 | e0
        all_goals
          go_wp2_with (go_at_call 80; refine (HLW.out _).mono ?_; rintro e w' ⟨rfl, rfl⟩)
          refine ⟨⟨k + 1, acc * 16 + (z - 87), a * 16 + (((z : Nat) : Int) - 97 + 10), rfl, (by first | rfl | (congr 1; omega)), (by first | rfl | (congr 1; omega)), by omega, HN.out⟩, by simp [intOf]; omega⟩
      · have HN := Lib.hid (HNO.out c3)
        have e0 : ¬ (48 : Int) ≤ ((n : Nat) : Int) ∨ ¬ ((n : Nat) : Int) ≤ 57 := by omega
        have e5 : (((n : Nat) : Int) == 95) = false := by rw [beq_eq_false_iff_ne]; omega
        have e1 : (97 : Int) ≤ ((n ||| 32 : Nat) : Int) := by omega
        have e2 : ((n ||| 32 : Nat) : Int) ≤ 122 := by omega
        have e3 : ¬ ((n ||| 32 : Nat) : Int) - 97 + 10 < 16 := by omega
        clear HST HNO c0 c1 c2 c3 ha hacc hcv hemp
        generalize n ||| 32 = z at *
        rcases e0 with e0 | e0
        all_goals
          go_wp2_with (go_at_call 80; refine (HLW.out _).mono ?_; rintro e w' ⟨rfl, rfl⟩)
          go_ret2
          exact ⟨by rw [HN.out]; rfl, HBL.out⟩
      · have HN := Lib.hid (HNO.out c3)
        have e0 : ¬ (48 : Int) ≤ ((n : Nat) : Int) ∨ ¬ ((n : Nat) : Int) ≤ 57 := by omega
        have e1 : ¬ (97 : Int) ≤ ((n ||| 32 : Nat) : Int) ∨ ¬ ((n ||| 32 : Nat) : Int) ≤ 122 := by omega
        have e5 : (((n : Nat) : Int) == 95) = false ∨ (((n : Nat) : Int) == 95) = true := by cases ((n : Nat) : Int) == 95 <;> simp
        clear HST HNO c0 c1 c3 ha hacc hcv hemp
        generalize n ||| 32 = z at *
        rcases e0 with e0 | e0
        all_goals rcases e1 with e1 | e1
        all_goals rcases e5 with e5 | e5
        all_goals
          go_wp2_with (go_at_call 80; refine (HLW.out _).mono ?_; rintro e w' ⟨rfl, rfl⟩)
        all_goals
          go_ret2
          exact ⟨by rw [HN.out]; rfl, HBL.out⟩
    · obtain rfl : k = 2 := by omega
      have HN := Lib.hid (hx_some hR)
      subst ha
      clear hac2 hacc hR a0 a1 hcv hemp hx hy
      go_wp2
      go_ret2
      exact ⟨by rw [HN.out]; rfl, HBL.out⟩
end Go.Proofs.YtkobjbmjefkmgaaDoor
