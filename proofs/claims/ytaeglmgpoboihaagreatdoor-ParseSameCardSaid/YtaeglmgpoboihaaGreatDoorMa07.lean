/- Texts on the program and on the document, joined: LxqC, LxqD, Tab. -/
import Derived.Test.YtaeglmgpoboihaaGreatDoorMa01
import Derived.Test.YtaeglmgpoboihaaGreatDoorRows
import Derived.WalkKit
import Derived.BigCall
import Derived.BigGuard
import Derived.ProofKit
import Derived.OpenShut
import Derived.ShutString
import Derived.Test.YtaeglmgpoboihaaGreatDoorShelf
import Derived.BigQuiet
import Derived.IntWalk
import Derived.Lib.LaidTab
import Derived.MakeChecks
import Derived.Lay
/- Two hexadecimal digits as a number: the library's ParseUint at base 16 and eight bits, walked at texts of two bytes. -/
namespace Go.Proofs.YtaeglmgpoboihaaGreatDoor
open Go.ChangeShapes Go.WideShapes Go.ChangeAt Go.RowKit K L14
set_option linter.unusedVariables false

theorem hex_cls : ∀ n : Fin 256, (48 ≤ n.val ∧ n.val ≤ 57 ∧ nib n.val = some (n.val - 48)) ∨ ((¬ (48 ≤ n.val ∧ n.val ≤ 57) ∧ n.val ≠ 95) ∧ 97 ≤ (n.val ||| 32) ∧ (n.val ||| 32) ≤ 102 ∧ nib n.val = some ((n.val ||| 32) - 87)) ∨
    ((¬ (48 ≤ n.val ∧ n.val ≤ 57) ∧ n.val ≠ 95) ∧ 103 ≤ (n.val ||| 32) ∧ (n.val ||| 32) ≤ 122 ∧ nib n.val = none) ∨ (¬ (48 ≤ n.val ∧ n.val ≤ 57) ∧ ((n.val ||| 32) < 97 ∨ 122 < (n.val ||| 32)) ∧ nib n.val = none) := by decide +kernel
theorem low_bits : ∀ n : Fin 256, bits .or .u8 (n.val : Int) 32 = ((n.val ||| 32 : Nat) : Int) ∧ (n.val ||| 32) < 256 := by decide +kernel
set_option maxRecDepth 100000 in
theorem lower16_walk (n : Nat) (hn : n < 256) (w : World) : Calls Tryz.prog 112 #[.int .u8 (n : Nat)] w fun e w' => e = .returned (.int .u8 ((n ||| 32 : Nat) : Int)) ∧ w = w' := by
  have hb := Lib.hid (low_bits ⟨n, hn⟩).1
  have h0 := bits_lo_u8 .or ((n : Nat) : Int) 32
  have h1 := bits_hi_u8 .or ((n : Nat) : Int) 32
  go_enter Tryz.func112, Tryz.ntmps112
  go_wp2
  go_ret
  exact ⟨by rw [show bits .or .u8 ((n : Nat) : Int) 32 = ((n ||| 32 : Nat) : Int) from hb.out]; rfl, rfl⟩
/-- What two digits tell, so far. -/
def HxR (c d : Nat) (k acc : Nat) : Prop := (k = 0 ∧ acc = 0) ∨ (k = 1 ∧ nib c = some acc) ∨ (k = 2 ∧ ∃ a b, nib c = some a ∧ nib d = some b ∧ acc = a * 16 + b)
/-- The value of two digits. -/
def hex2 (c d : Nat) : Option Nat := match nib c, nib d with | some a, some b => some (a * 16 + b) | _, _ => none
theorem nib_lt {c a : Nat} (h : nib c = some a) : a < 16 := by
  unfold nib at h
  split at h
  · next h1 => unfold dgN at h1; simp only [Bool.and_eq_true, decide_eq_true_eq] at h1; injection h with h; omega
  · split at h
    · injection h with h; omega
    · split at h
      · injection h with h; omega
      · cases h
/-- The library's answer. -/
def HxV (c d : Nat) : Value := match hex2 c d with | some v => .tuple #[.int .u64 (v : Nat), .nilIface] | none => .tuple #[.int .u64 0, .iface 152 (.int .i64 2)]
theorem hx_step {c d k acc n v : Nat} (h : HxR c d k acc) (hk : k < 2) (hn : n = if k = 0 then c else d) (hv : nib n = some v) : HxR c d (k + 1) (acc * 16 + v) ∧ acc * 16 + v ≤ 255 := by
  have := nib_lt hv
  rcases h with ⟨rfl, rfl⟩ | ⟨rfl, h⟩ | ⟨rfl, h⟩
  · rw [if_pos rfl] at hn; subst hn
    exact ⟨.inr (.inl ⟨rfl, by rw [hv]; simp⟩), by omega⟩
  · rw [if_neg (by decide)] at hn; subst hn
    have := nib_lt h
    exact ⟨.inr (.inr ⟨rfl, _, _, h, hv, rfl⟩), by omega⟩
  · omega
theorem hx_none {c d k acc n : Nat} (h : HxR c d k acc) (hk : k < 2) (hn : n = if k = 0 then c else d) (hv : nib n = none) : HxV c d = .tuple #[.int .u64 0, .iface 152 (.int .i64 2)] := by
  have e : hex2 c d = none := by
    unfold hex2
    rcases h with ⟨rfl, rfl⟩ | ⟨rfl, h⟩ | ⟨rfl, h⟩
    · rw [if_pos rfl] at hn; subst hn; rw [hv]
    · rw [if_neg (by decide)] at hn; subst hn; rw [hv]; cases nib c <;> rfl
    · omega
  unfold HxV; rw [e]
theorem hx_some {c d acc : Nat} (h : HxR c d 2 acc) : HxV c d = .tuple #[.int .u64 (acc : Nat), .nilIface] := by
  rcases h with ⟨h, _⟩ | ⟨h, _⟩ | ⟨_, a, b, h1, h2, rfl⟩
  · omega
  · omega
  · unfold HxV hex2; rw [h1, h2]
set_option maxHeartbeats 32000000 in
set_option maxRecDepth 100000 in
theorem hexint_walk (x y : UInt8) (w : World) :
    Calls Tryz.prog 105 #[.string (bs [x, y]), .int .i64 16, .int .i64 8] w fun e w' => e = .returned (HxV x.toNat y.toNat) ∧ Below w.heap.size w w' := by
  have hx := x.toNat_lt
  have hy := y.toNat_lt
  have HX : ∀ (k acc : Nat), HxR x.toNat y.toNat k acc → k < 2 → HxR x.toNat y.toNat k acc := fun _ _ h _ => h
  have hcv := Lib.run_convert_string_bytes (P := Tryz.prog) w 9 119 5 (bs [x, y]) (u := .string) Tryz.underlying9 Tryz.underlying119 Tryz.underlying5
  have hB : ∀ k, k < 2 → (Lib.bytesWorld w 5 (bs [x, y])).cell? ⟨w.heap.size, k, none⟩ = some (.int .u8 ((if k = 0 then x.toNat else y.toNat : Nat) : Int)) := by
    intro k hk
    rw [bytes_cell w 5 [x, y] k (by simpa using hk)]
    obtain rfl | rfl : k = 0 ∨ k = 1 := by omega
    · rfl
    · rfl
  have hbl : Below w.heap.size w (Lib.bytesWorld w 5 (bs [x, y])) := (Kp.bytes (Kp.refl [] w) 5 (bs [x, y])).below (Nat.le_refl _) (by simp)
  obtain ⟨W1, hW1⟩ : ∃ W1, W1 = Lib.bytesWorld w 5 (bs [x, y]) := ⟨_, rfl⟩
  rw [← hW1] at hcv hB hbl
  have HBL := Lib.hid hbl
  have HB := Lib.hid hB
  have hsz : (bs [x, y]).size = 2 := rfl
  have hemp : (bs [x, y]).toList.isEmpty = false := by rw [bs_list]; rfl
  have hmv : IntKind.u64.wrap (IntKind.u64.wrap 256 - 1) = 255 := by
    rw [IntKind.wrap_u64, IntKind.wrap_u64]
    decide
  clear hW1 hbl hB HX
  generalize bs [x, y] = S at *
  go_enter Tryz.func105, Tryz.ntmps105
  go_wp2
  go_loop [12, 13, 101] (fun vu vn vi => ∃ (k acc : Nat) (a : Int), vu = .bool false ∧ vn = .int .u64 a ∧ vi = .int .i64 k ∧ k ≤ 2 ∧ Hid (a = (acc : Int) ∧ acc ≤ 255 ∧ (k < 2 → acc < 16) ∧ HxR x.toNat y.toNat k acc))
    (fun _ _ vi => 2 - (intOf vi).toNat)
  case atStart => exact ⟨0, 0, 0, rfl, rfl, rfl, by omega, rfl, by omega, by omega, .inl ⟨rfl, rfl⟩⟩
  case round =>
    obtain ⟨k, acc, a, rfl, rfl, rfl, hk, hh⟩ := hrel
    obtain ⟨ha, hacc, hac2, hR⟩ := hh.out
    clear hh
    have a0 : 0 ≤ a := by omega
    have a1 : a ≤ 255 := by omega
    by_cases hk2 : k < 2
    · have hc := HB.out k hk2
      have hn : (if k = 0 then x.toNat else y.toNat) < 256 := by split <;> omega
      have HST := Lib.hid (fun v h => hx_step (n := if k = 0 then x.toNat else y.toNat) (v := v) hR hk2 rfl h)
      have HNO := Lib.hid (fun h => hx_none (n := if k = 0 then x.toNat else y.toNat) hR hk2 rfl h)
      have hcl := hex_cls ⟨_, hn⟩
      simp only at hcl
      have hac3 : a < 16 := by have := hac2 hk2; omega
      have hk2i : ((k : Nat) : Int) < 2 := by omega
      generalize (if k = 0 then x.toNat else y.toNat) = n at *
      have HLW := Lib.hid (fun w1 => lower16_walk n hn w1)
      have hlb := (low_bits ⟨n, hn⟩).2
      simp only at hlb
      clear hac2 hR hx hy
      rcases hcl with ⟨c1, c2, c3⟩ | ⟨c0, c1, c2, c3⟩ | ⟨c0, c1, c2, c3⟩ | ⟨c0, c1, c3⟩
      · obtain ⟨h1, h2⟩ := HST.out _ c3
        have HN := Lib.hid (show Hid (a * 16 + (((n : Nat) : Int) - 48) = ((acc * 16 + (n - 48) : Nat) : Int) ∧ acc * 16 + (n - 48) ≤ 255 ∧ (k + 1 < 2 → acc * 16 + (n - 48) < 16) ∧ HxR x.toNat y.toNat (k + 1) (acc * 16 + (n - 48))) from Lib.hid ⟨by omega, h2, fun hk1 => by rcases h1 with ⟨q, _⟩ | ⟨q, q2⟩ | ⟨q, _⟩; omega; exact nib_lt q2; omega, h1⟩)
        have e1 : (48 : Int) ≤ ((n : Nat) : Int) := by omega
        have e2 : ((n : Nat) : Int) ≤ 57 := by omega
        have e3 : a * 16 + (((n : Nat) : Int) - 48) ≤ 255 := by omega
        clear HST HNO c1 c2 c3 h1 h2 ha hacc hlb hcv hemp
        go_wp2
        refine ⟨⟨k + 1, acc * 16 + (n - 48), a * 16 + (((n : Nat) : Int) - 48), rfl, (by first | rfl | (congr 1; omega)), (by first | rfl | (congr 1; omega)), by omega, HN.out⟩, by simp [intOf]; omega⟩
      · obtain ⟨h1, h2⟩ := HST.out _ c3
        have HN := Lib.hid (show Hid (a * 16 + (((n ||| 32 : Nat) : Int) - 97 + 10) = ((acc * 16 + ((n ||| 32) - 87) : Nat) : Int) ∧ acc * 16 + ((n ||| 32) - 87) ≤ 255 ∧ (k + 1 < 2 → acc * 16 + ((n ||| 32) - 87) < 16) ∧ HxR x.toNat y.toNat (k + 1) (acc * 16 + ((n ||| 32) - 87))) from Lib.hid ⟨by omega, h2, fun hk1 => by rcases h1 with ⟨q, _⟩ | ⟨q, q2⟩ | ⟨q, _⟩; omega; exact nib_lt q2; omega, h1⟩)
        have HU := Lib.hid (show ((n ||| 32 : Nat) : Int) - 97 + 10 < 16 ∧ a * 16 + (((n ||| 32 : Nat) : Int) - 97 + 10) ≤ 255 by omega)
        have e0 : ¬ (48 : Int) ≤ ((n : Nat) : Int) ∨ ¬ ((n : Nat) : Int) ≤ 57 := by omega
        have e5 : (((n : Nat) : Int) == 95) = false := by rw [beq_eq_false_iff_ne]; omega
        have e1 : (97 : Int) ≤ ((n ||| 32 : Nat) : Int) := by omega
        have e2 : ((n ||| 32 : Nat) : Int) ≤ 122 := by omega
        clear HST HNO c0 c1 c2 c3 h1 h2 ha hacc hcv hemp
        generalize n ||| 32 = z at *
        obtain ⟨e3, e4⟩ := HU.out
        clear HU
        rcases e0 with e0 | e0
        all_goals
          go_wp2_with (go_at_call 112; refine (HLW.out _).mono ?_; rintro e w' ⟨rfl, rfl⟩)
          refine ⟨⟨k + 1, acc * 16 + (z - 87), a * 16 + (((z : Nat) : Int) - 97 + 10), rfl, (by first | rfl | (congr 1; omega)), (by first | rfl | (congr 1; omega)), by omega, HN.out⟩, by simp [intOf]; omega⟩
      · have HN := Lib.hid (HNO.out c3)
        have e0 : ¬ (48 : Int) ≤ ((n : Nat) : Int) ∨ ¬ ((n : Nat) : Int) ≤ 57 := by omega
        have e5 : (((n : Nat) : Int) == 95) = false := by rw [beq_eq_false_iff_ne]; omega
        have e1 : (97 : Int) ≤ ((n ||| 32 : Nat) : Int) := by omega
        have e2 : ((n ||| 32 : Nat) : Int) ≤ 122 := by omega
        have e3 : ¬ ((n ||| 32 : Nat) : Int) - 97 + 10 < 16 := by omega
        clear HST HNO c0 c1 c2 c3 ha hacc hcv hemp
        generalize n ||| 32 = z at *
        rcases e0 with e0 | e0
        all_goals
          go_wp2_with (go_at_call 112; refine (HLW.out _).mono ?_; rintro e w' ⟨rfl, rfl⟩)
          go_ret2
          exact ⟨by rw [HN.out]; rfl, HBL.out⟩
      · have HN := Lib.hid (HNO.out c3)
        have e0 : ¬ (48 : Int) ≤ ((n : Nat) : Int) ∨ ¬ ((n : Nat) : Int) ≤ 57 := by omega
        have e1 : ¬ (97 : Int) ≤ ((n ||| 32 : Nat) : Int) ∨ ¬ ((n ||| 32 : Nat) : Int) ≤ 122 := by omega
        have e5 : (((n : Nat) : Int) == 95) = false ∨ (((n : Nat) : Int) == 95) = true := by cases ((n : Nat) : Int) == 95 <;> simp
        clear HST HNO c0 c1 c3 ha hacc hcv hemp
        generalize n ||| 32 = z at *
        rcases e0 with e0 | e0
        all_goals rcases e1 with e1 | e1
        all_goals rcases e5 with e5 | e5
        all_goals
          go_wp2_with (go_at_call 112; refine (HLW.out _).mono ?_; rintro e w' ⟨rfl, rfl⟩)
        all_goals
          go_ret2
          exact ⟨by rw [HN.out]; rfl, HBL.out⟩
    · obtain rfl : k = 2 := by omega
      have HN := Lib.hid (hx_some hR)
      subst ha
      clear hac2 hacc hR a0 a1 hcv hemp hx hy
      go_wp2
      go_ret2
      exact ⟨by rw [HN.out]; rfl, HBL.out⟩
end Go.Proofs.YtaeglmgpoboihaaGreatDoor
/- The program's hexByte and escaped, walked. -/
namespace Go.Proofs.YtaeglmgpoboihaaGreatDoor
open Go.ChangeShapes Go.WideShapes Go.ChangeAt Go.RowKit K L14
set_option linter.unusedVariables false

/-- What the library's variables hold, of which the program's calls want something. -/
def LxI (w : World) : Prop := (∃ m, w.cell? ⟨0, 0, none⟩ = some (.int .i64 m)) ∧ (∃ te pe, w.cell? ⟨5, 0, none⟩ = some (.iface te pe))
theorem LxI.below {w w' : World} (h : LxI w) (k : Below w.heap.size w w') : LxI w' := by
  obtain ⟨⟨m, h1⟩, ⟨t1, p1, h2⟩⟩ := h
  exact ⟨⟨m, (k.cell (p := ⟨0, 0, none⟩) (World.block_lt_of_cell? w _ h1)).trans h1⟩, ⟨t1, p1, (k.cell (p := ⟨5, 0, none⟩) (World.block_lt_of_cell? w _ h2)).trans h2⟩⟩
/-- What two digits are answered as. -/
def PxPost (x y : UInt8) (w : World) (e : Ending) (w' : World) : Prop :=
  (match hex2 x.toNat y.toNat with | some v => e = .returned (.tuple #[.int .u64 (v : Nat), .nilIface]) | none => ∃ t p, e = .returned (.tuple #[.int .u64 0, .iface t p])) ∧ Below w.heap.size w w'
set_option maxHeartbeats 1000000 in
set_option maxRecDepth 100000 in
theorem pu16_walk (x y : UInt8) (w : World) (T : LxI w) : Calls Tryz.prog 95 #[.string (bs [x, y]), .int .i64 16, .int .i64 8] w (PxPost x y w) := by
  have HI := hexint_walk x y w
  unfold HxV at HI
  unfold PxPost
  have hln : (bs [x, y]).size ≤ 281474976710656 := by rw [bs_size]; simp
  cases hx : hex2 x.toNat y.toNat with
  | some v =>
    rw [hx] at HI
    have H := Lib.hid HI
    clear HI hx T
    generalize bs [x, y] = S at *
    go_enter Tryz.func95, Tryz.ntmps95
    go_wp2_with fail
    refine H.out.mono ?_
    rintro e w1 ⟨rfl, b1⟩
    go_wp2
    go_ret2
    exact ⟨rfl, b1⟩
  | none =>
    rw [hx] at HI
    have H := Lib.hid HI
    have HT := Lib.hid (fun w1 (b : Below w.heap.size w w1) => (LxI.below T b).2)
    have hE := fun (ev : Value) (w1 : World) hv hev => AnyPu.strconv_toError_syntax (P := Tryz.prog) (ρ := Tryz.laysPu14_ren) { Tryz.laysPu14 with } ⟨#[80, 97, 114, 115, 101, 85, 105, 110, 116]⟩ (bs [x, y]) 16 8 ev w1 hln hv hev
    have HE := Lib.hid hE
    clear HI hx T hE
    generalize bs [x, y] = S at *
    go_enter Tryz.func95, Tryz.ntmps95
    go_wp2_with fail
    refine H.out.mono ?_
    rintro e w1 ⟨rfl, b1⟩
    obtain ⟨te, pe, hv⟩ := HT.out _ b1
    go_wp2_with fail
    refine (HE.out _ _ hv (.inr ⟨_, _, rfl⟩)).mono ?_
    rintro e w2 ⟨N, rfl, -, -, b2⟩
    go_wp2
    go_ret2
    exact ⟨⟨_, _, rfl⟩, b1.trans (b2.mono b1.size)⟩
theorem lx_dr {B : Nat} {a b : World} (h : Below B a b) (n : Nat) : Below B a (b.drewN n) := ⟨h.os, h.tape, h.output, h.size, h.block⟩
/-- What hexByte answers. -/
def hxB (s : List UInt8) : Option (UInt8 × List UInt8) := match s with | x :: y :: r => (hex2 x.toNat y.toNat).map fun v => (UInt8.ofNat v, r) | _ => none
def HbPost (o : Option (UInt8 × List UInt8)) (w : World) (e : Ending) (w' : World) : Prop :=
  (e = .returned (match o with | some (b, r) => .tuple #[.int .u8 (b.toNat : Nat), .string (bs r), .bool true] | none => .tuple #[.int .u8 0, .string (bs []), .bool false])) ∧ Below w.heap.size w w'
theorem hex2_le {c d v : Nat} (h : hex2 c d = some v) : v ≤ 255 := by
  unfold hex2 at h
  cases hc : nib c with
  | none => rw [hc] at h; cases h
  | some a =>
    cases hd : nib d with
    | none => rw [hc, hd] at h; cases h
    | some b =>
      rw [hc, hd] at h
      have h1 := nib_lt hc
      have h2 := nib_lt hd
      injection h with h; omega
set_option maxHeartbeats 1000000 in
set_option maxRecDepth 100000 in
theorem hexbyte_walk (s : List UInt8) (hs : s.length ≤ 140737488351232) (w : World) (T : LxI w) : Calls Tryz.prog 87 #[.string (bs s)] w (HbPost (hxB s) w) := by
  match s, hs with
  | [], _ =>
    go_enter Tryz.func87, Tryz.ntmps87
    go_wp2
    go_ret3
    exact ⟨rfl, Below.refl _ _⟩
  | [x], _ =>
    have hl : ([x] : List UInt8).length = 1 := rfl
    have HP := Lib.hid (show hxB [x] = none from rfl)
    rw [HP.out]
    clear HP
    generalize ([x] : List UInt8) = S at *
    go_enter Tryz.func87, Tryz.ntmps87
    go_wp2
    go_ret3
    exact ⟨rfl, Below.refl _ _⟩
  | x :: y :: r, hs =>
    have H := pu16_walk x y w T
    unfold PxPost at H
    have hl0 : (x :: y :: r).length = r.length + 2 := rfl
    have hl1 : ¬ (((x :: y :: r).length : Nat) : Int) < 2 := by omega
    have hl2 : 2 ≤ (x :: y :: r).length := by omega
    have ht : (x :: y :: r).take 2 = [x, y] := rfl
    have hd : (x :: y :: r).drop 2 = r := rfl
    cases hx : hex2 x.toNat y.toNat with
    | some v =>
      rw [hx] at H
      have hv := hex2_le hx
      have hv2 : ((v : Nat) : Int) ≤ 255 := by omega
      have HV := Lib.hid (show (UInt8.ofNat v).toNat = v by simp; omega)
      have HP := Lib.hid (show hxB (x :: y :: r) = some (UInt8.ofNat v, r) by simp only [hxB, hx]; rfl)
      rw [HP.out]
      have HC := Lib.hid H
      have HT2 := Lib.hid ht
      have HD2 := Lib.hid hd
      clear H hx HP ht hd hl0
      generalize x :: y :: r = S at *
      go_enter Tryz.func87, Tryz.ntmps87
      go_wp2_with fail
      rw [HT2.out]
      refine HC.out.mono ?_
      rintro e w1 ⟨rfl, b1⟩
      have B1 := Lib.hid b1
      clear b1
      go_wp2_with fail
      go_quiet (fail)
      go_wp2
      go_ret3
      unfold HbPost
      refine ⟨?_, ?_⟩
      · rw [HD2.out]
        simp only [HV.out]
        rfl
      · exact lx_dr B1.out _
    | none =>
      rw [hx] at H
      have HP := Lib.hid (show hxB (x :: y :: r) = none by simp only [hxB, hx]; rfl)
      rw [HP.out]
      have HC := Lib.hid H
      have HT2 := Lib.hid ht
      clear H hx HP ht hd hl0
      generalize x :: y :: r = S at *
      go_enter Tryz.func87, Tryz.ntmps87
      go_wp2_with fail
      rw [HT2.out]
      refine HC.out.mono ?_
      rintro e w1 ⟨⟨tt, pp, rfl⟩, b1⟩
      go_wp2
      go_ret3
      exact ⟨rfl, b1⟩
/-- What escaped answers. -/
def escP (s : List UInt8) : Option (UInt8 × List UInt8) := (esc s).map fun y => (y.1, s.drop y.2)
theorem escP_x (t : List UInt8) : escP (120 :: t) = hxB t := by
  match t with
  | [] => rfl
  | [x] => rfl
  | x :: y :: r =>
    have e : esc (120 :: x :: y :: r) = (match nib x.toNat, nib y.toNat with | some a, some b => some (UInt8.ofNat (a * 16 + b), 3) | _, _ => none) := rfl
    unfold escP
    rw [e]
    simp only [hxB, hex2]
    cases nib x.toNat with
    | none => rfl
    | some a => cases nib y.toNat <;> rfl
theorem escP_no {c : UInt8} {t : List UInt8} (h1 : ¬ c = 34) (h2 : ¬ c = 92) (h3 : ¬ c = 110) (h4 : ¬ c = 116) (h5 : ¬ c = 120) : escP (c :: t) = none := by
  unfold escP
  simp only [esc]
  rw [if_neg (by simp [h1, h2]), if_neg h3, if_neg h4, if_neg h5]; rfl
theorem byte_ne {c : UInt8} {n : Nat} (hn : n < 256) (h : ¬ c = UInt8.ofNat n) : (((c.toNat : Nat) : Int) == ((n : Nat) : Int)) = false := by
  rw [beq_eq_false_iff_ne]
  intro e
  apply h
  have : c.toNat = n := by omega
  rw [← this]; simp
set_option maxHeartbeats 1000000 in
set_option maxRecDepth 100000 in
theorem escaped_walk14 (s : List UInt8) (hs : s.length ≤ 140737488351232) (w : World) (T : LxI w) : Calls Tryz.prog 71 #[.string (bs s)] w (HbPost (escP s) w) := by
  cases s with
  | nil =>
    go_enter Tryz.func71, Tryz.ntmps71
    go_wp2
    go_ret3
    exact ⟨rfl, Below.refl _ _⟩
  | cons c t =>
    have hby : byt (c :: t) 0 = c.toNat := rfl
    have hne : (c :: t).isEmpty = false := rfl
    have hpos : 0 < (c :: t).length := by simp
    by_cases c1 : c = 34
    · have HX := Lib.hid (show escP (c :: t) = some (34, t) by subst c1; rfl)
      have hb : byt (c :: t) 0 = 34 := by rw [hby, c1]; rfl
      rw [HX.out]
      have HDR := Lib.hid (show (c :: t).tail = t from rfl)
      have hpos1 : 1 ≤ (c :: t).length := by simp
      clear c1 hby
      generalize c :: t = s at *
      go_enter Tryz.func71, Tryz.ntmps71
      go_wp2_with fail
      go_quiet (fail)
      go_wp2
      go_ret3
      exact ⟨by rw [HDR.out]; rfl, lx_dr (Below.refl _ _) _⟩
    by_cases c2 : c = 92
    · have HX := Lib.hid (show escP (c :: t) = some (92, t) by subst c2; rfl)
      have hb : byt (c :: t) 0 = 92 := by rw [hby, c2]; rfl
      rw [HX.out]
      have HDR := Lib.hid (show (c :: t).tail = t from rfl)
      have hpos1 : 1 ≤ (c :: t).length := by simp
      clear c1 c2 hby
      generalize c :: t = s at *
      go_enter Tryz.func71, Tryz.ntmps71
      go_wp2_with fail
      go_quiet (fail)
      go_wp2
      go_ret3
      exact ⟨by rw [HDR.out]; rfl, lx_dr (Below.refl _ _) _⟩
    by_cases c3 : c = 110
    · have HX := Lib.hid (show escP (c :: t) = some (10, t) by subst c3; rfl)
      have hb : byt (c :: t) 0 = 110 := by rw [hby, c3]; rfl
      rw [HX.out]
      have HDR := Lib.hid (show (c :: t).tail = t from rfl)
      have hpos1 : 1 ≤ (c :: t).length := by simp
      clear c1 c2 c3 hby
      generalize c :: t = s at *
      go_enter Tryz.func71, Tryz.ntmps71
      go_wp2_with fail
      go_quiet (fail)
      go_wp2
      go_ret3
      exact ⟨by rw [HDR.out]; rfl, lx_dr (Below.refl _ _) _⟩
    by_cases c4 : c = 116
    · have HX := Lib.hid (show escP (c :: t) = some (9, t) by subst c4; rfl)
      have hb : byt (c :: t) 0 = 116 := by rw [hby, c4]; rfl
      rw [HX.out]
      have HDR := Lib.hid (show (c :: t).tail = t from rfl)
      have hpos1 : 1 ≤ (c :: t).length := by simp
      clear c1 c2 c3 c4 hby
      generalize c :: t = s at *
      go_enter Tryz.func71, Tryz.ntmps71
      go_wp2_with fail
      go_quiet (fail)
      go_wp2
      go_ret3
      exact ⟨by rw [HDR.out]; rfl, lx_dr (Below.refl _ _) _⟩
    by_cases c5 : c = 120
    · have hx := hexbyte_walk t (by simp at hs; omega) w T
      have HX := Lib.hid (show escP (c :: t) = hxB t by subst c5; exact escP_x t)
      have hb : byt (c :: t) 0 = 120 := by rw [hby, c5]; rfl
      rw [HX.out]
      unfold HbPost at hx ⊢
      have HC := Lib.hid hx
      have HDR := Lib.hid (show (c :: t).tail = t from rfl)
      have hpos1 : 1 ≤ (c :: t).length := by simp
      clear c1 c2 c3 c4 c5 hby hx HX
      generalize c :: t = s at *
      generalize hxB t = ob at *
      cases ob with
      | none =>
        go_enter Tryz.func71, Tryz.ntmps71
        go_wp2_with fail
        rw [HDR.out]
        refine HC.out.mono ?_
        rintro e w1 ⟨rfl, b1⟩
        go_wp2
        go_ret3
        exact ⟨rfl, b1⟩
      | some y =>
        obtain ⟨b, r⟩ := y
        go_enter Tryz.func71, Tryz.ntmps71
        go_wp2_with fail
        rw [HDR.out]
        refine HC.out.mono ?_
        rintro e w1 ⟨rfl, b1⟩
        go_wp2
        go_ret3
        exact ⟨rfl, b1⟩
    · have HX := Lib.hid (escP_no (t := t) c1 c2 c3 c4 c5)
      rw [HX.out]
      have e1 : (((byt (c :: t) 0 : Nat) : Int) == 34) = false := by rw [hby]; exact byte_ne (n := 34) (by decide) c1
      have e2 : (((byt (c :: t) 0 : Nat) : Int) == 92) = false := by rw [hby]; exact byte_ne (n := 92) (by decide) c2
      have e3 : (((byt (c :: t) 0 : Nat) : Int) == 110) = false := by rw [hby]; exact byte_ne (n := 110) (by decide) c3
      have e4 : (((byt (c :: t) 0 : Nat) : Int) == 116) = false := by rw [hby]; exact byte_ne (n := 116) (by decide) c4
      have e5 : (((byt (c :: t) 0 : Nat) : Int) == 120) = false := by rw [hby]; exact byte_ne (n := 120) (by decide) c5
      clear c1 c2 c3 c4 c5 hby HX T
      generalize c :: t = s at *
      go_enter Tryz.func71, Tryz.ntmps71
      go_wp2
      go_ret3
      exact ⟨rfl, Below.refl _ _⟩
end Go.Proofs.YtaeglmgpoboihaaGreatDoor
/- From a row's list of tables to the cells of one of them. Of no program. -/
namespace Go.Proofs.YtaeglmgpoboihaaGreatDoor
open Go.RowKit
namespace K
theorem tup3 {a b c a' b' c' : Value} (h1 : a = a') (h2 : b = b') (h3 : c = c') : Ending.returned (.tuple #[a, b, c]) = .returned (.tuple #[a', b', c']) := by rw [h1, h2, h3]
theorem tup2 {a b a' b' : Value} (h1 : a = a') (h2 : b = b') : Ending.returned (.tuple #[a, b]) = .returned (.tuple #[a', b']) := by rw [h1, h2]
theorem one {a a' : Value} (h : a = a') : Ending.returned a = .returned a' := by rw [h]
theorem laidVars_at {P : Program} {W : World} : ∀ {L : List (String × DataW Unit)} {ps : List MemPlace}, DataW.LaidVars P W L ps → ∀ {n : String} {d : DataW Unit}, (n, d) ∈ L →
    ∃ g t cs fuel p, P.globalNamed n = some g ∧ (P.globals[g]?).map (·.type) = some t ∧ W.var? P n = some cs ∧ DataW.trod (fun _ => ()) P W 0 (fun _ => true) false fuel t cs.toList = some (d, p)
  | [], _, _, n, d, hm => by cases hm
  | (m, e) :: r, ps, h, n, d, hm => by
    obtain ⟨g, t, cs, fuel, p, q, h1, h2, h3, h4, hr, _⟩ := h
    rcases List.mem_cons.1 hm with h5 | h5
    · cases h5; exact ⟨g, t, cs, fuel, p, h1, h2, h3, h4⟩
    · exact laidVars_at hr h5
/-- One of a row's listed variables: its cells read as what is listed. -/
theorem laid_at {P : Program} {W : World} {L : List (String × DataW Unit)} (h : laidMetH P L W) (hp : (L.all fun x => x.2.handleName?.isNone) = true) {n : String} {d : DataW Unit} (hm : (n, d) ∈ L) {g : Nat} {t : TypeId}
    (hg : P.globalNamed n = some g) (ht : (P.globals[g]?).map (·.type) = some t) :
    ∃ cs fuel p, W.var? P n = some cs ∧ DataW.trod (fun _ => ()) P W 0 (fun _ => true) false fuel t cs.toList = some (d, p) := by
  rw [MakeChecks.laidMetH_plain _ _ _ hp] at h
  obtain ⟨ps, hl, _, _⟩ := h
  obtain ⟨g', t', cs, fuel, p, h1, h2, h3, h4⟩ := laidVars_at hl hm
  obtain rfl := Option.some.inj (hg.symm.trans h1)
  obtain rfl := Option.some.inj (ht.symm.trans h2)
  exact ⟨cs, fuel, p, h3, h4⟩
/-- A table of integers. -/
theorem laid_tab {P : Program} {W : World} {L : List (String × DataW Unit)} (h : laidMetH P L W) (hp : (L.all fun x => x.2.handleName?.isNone) = true) {n : String} {k : IntKind} {zs : List Int} (hm : (n, (Lib.tabData k zs : DataW Unit)) ∈ L)
    {g : Nat} {t e : TypeId} {N : Nat} (hg : P.globalNamed n = some g) (ht : (P.globals[g]?).map (·.type) = some t) (hu : P.underlying t = some (.array N e)) (he : P.underlying e = some (.int k)) (hce : P.cellsOf e = 1) (hct : P.cellsOf t = N) :
    Lib.TabIs P W n k zs := by
  obtain ⟨cs, fuel, p, hv, hd⟩ := laid_at h hp hm hg ht
  unfold Lib.TabIs
  rw [hv, ← Lib.cells_of_tab hu he hce hct hd]
/-- A table stays as long as only newer memory turns. -/
theorem tab_below {P : Program} {w w' : World} {n : String} {k : IntKind} {zs : List Int} (h : Lib.TabIs P w n k zs) (hb : Below w.heap.size w w') : Lib.TabIs P w' n k zs := by
  unfold Lib.TabIs World.var? at *
  cases hg : P.globalNamed n with
  | none => rw [hg] at h; simp at h
  | some g =>
    rw [hg] at h
    simp only [Option.bind_some] at h ⊢
    have hlt : g < w.heap.size := by
      rcases Nat.lt_or_ge g w.heap.size with h' | h'
      · exact h'
      · rw [Array.getElem?_eq_none h'] at h; simp at h
    rw [hb.block g hlt]; exact h
/-- A struct of a text and a number, as it is listed. -/
theorem pair_of {H : Type} {enc : TypeId × Value → H} {P : Program} {w : World} {base : Nat} {sp : Nat → Bool} {held : Bool} {fuel : Nat} {t ts ti : TypeId} {k : IntKind} {fs : Array Field} {cs : List Value} {s : List UInt8} {z : Int} {p : List MemPlace} {f0 f1 : Field}
    (ht : P.underlying t = some (.struct fs)) (h0 : fs[0]? = some f0) (h1 : fs[1]? = some f1) (e0 : f0.type = ts) (e1 : f1.type = ti) (o0 : f0.offset = 0) (o1 : f1.offset = 1) (hts : P.underlying ts = some .string) (hti : P.underlying ti = some (.int k))
    (c0 : P.cellsOf ts = 1) (c1 : P.cellsOf ti = 1) (hc : P.cellsOf t = 2)
    (h : DataW.trod enc P w base sp held fuel t cs = some (.agg [.lit (.string s), .lit (.int k z)], p)) : cs = [.string (bs s), .int k z] := by
  obtain ⟨xs, n, _, hx, hl, hlen, hf⟩ := DataW.trod_struct ht h
  have g0 := hf 0 f0 h0
  have g1 := hf 1 f1 h1
  rw [e0, o0, c0] at g0
  rw [e1, o1, c1] at g1
  rw [hc] at hl
  have hx1 : xs.map (·.1) = [.lit (.string s), .lit (.int k z)] := (DataW.agg.inj (Prod.mk.inj hx).1).symm
  have hxl : xs.length = 2 := by have := congrArg List.length hx1; simpa using this
  rw [List.getElem?_eq_getElem (by omega)] at g0 g1
  obtain ⟨a, ea, ea2, _⟩ := DataW.trod_string hts g0
  obtain ⟨b, eb, eb2, _⟩ := DataW.trod_int hti g1
  have m0 : (xs.map (·.1))[0]? = some (.lit (.string s)) := by rw [hx1]; rfl
  have m1 : (xs.map (·.1))[1]? = some (.lit (.int k z)) := by rw [hx1]; rfl
  rw [List.getElem?_map, List.getElem?_eq_getElem (by omega), ea2] at m0
  rw [List.getElem?_map, List.getElem?_eq_getElem (by omega), eb2] at m1
  simp only [Option.map_some, Option.some.injEq, DataW.lit.injEq, Lit.string.injEq, Lit.int.injEq, true_and] at m0 m1
  match cs, hl with
  | [x, y], _ =>
    simp at ea eb
    subst m0 m1
    rw [ea, eb, bs_of]
theorem pairs_of {H : Type} {enc : TypeId × Value → H} {P : Program} {w : World} {base : Nat} {sp : Nat → Bool} {held : Bool} {fuel : Nat} {t e ts ti : TypeId} {N : Nat} {k : IntKind} {fs : Array Field} {cs : List Value} {zs : List (List UInt8 × Int)} {p : List MemPlace} {f0 f1 : Field}
    (hu : P.underlying t = some (.array N e)) (ht : P.underlying e = some (.struct fs)) (h0 : fs[0]? = some f0) (h1 : fs[1]? = some f1) (e0 : f0.type = ts) (e1 : f1.type = ti) (o0 : f0.offset = 0) (o1 : f1.offset = 1) (hts : P.underlying ts = some .string) (hti : P.underlying ti = some (.int k))
    (c0 : P.cellsOf ts = 1) (c1 : P.cellsOf ti = 1) (hc : P.cellsOf e = 2) (hct : P.cellsOf t = 2 * N)
    (h : DataW.trod enc P w base sp held fuel t cs = some (.agg (zs.map fun z => .agg [.lit (.string z.1), .lit (.int k z.2)]), p)) :
    cs.length = 2 * N ∧ ∀ i z, zs[i]? = some z → (cs.drop (2 * i)).take 2 = [.string (bs z.1), .int k z.2] := by
  obtain ⟨xs, m, _, hx, hl, hlen, hf⟩ := DataW.trod_array hu h
  have hx1 : xs.map (·.1) = zs.map fun z => .agg [.lit (.string z.1), .lit (.int k z.2)] := (DataW.agg.inj (Prod.mk.inj hx).1).symm
  have hzl : zs.length = N := by have := congrArg List.length hx1; simp at this; omega
  refine ⟨by rw [hl, hct], fun i z hz => ?_⟩
  have hi : i < N := by
    have := (List.getElem?_eq_some_iff.1 hz).1; omega
  have hE := hf i hi
  rw [hc, List.getElem?_eq_getElem (by omega), Nat.mul_comm] at hE
  have m0 : (xs.map (·.1))[i]? = some (.agg [.lit (.string z.1), .lit (.int k z.2)]) := by rw [hx1, List.getElem?_map, hz]; rfl
  rw [List.getElem?_map, List.getElem?_eq_getElem (by omega)] at m0
  simp only [Option.map_some, Option.some.injEq] at m0
  have hE2 : DataW.trod enc P w base sp held m e ((cs.drop (2 * i)).take 2) = some (.agg [.lit (.string z.1), .lit (.int k z.2)], (xs[i]'(by omega)).2) := by rw [hE, ← m0]
  exact pair_of ht h0 h1 e0 e1 o0 o1 hts hti c0 c1 hc hE2
end K
end Go.Proofs.YtaeglmgpoboihaaGreatDoor
