/- ber's head, Wrap, Parts, walked. -/
import Derived.Test.YtepgkoafjeacnaaBerA
import Derived.Test.YtepgkoafjeacnaaWid
import Derived.Test.YtepgkoafjeacnaaPts
namespace Go.Proofs.Ytepgkoafjeacnaa
open Go.ChangeShapes Go.WideShapes Go.ChangeAt Go.RowKit K P1 B5
set_option linter.unusedVariables false

theorem run_conv_two {P : Program} (src e dst : TypeId) (hs : P.underlying src = some (.slice e)) (he : P.underlying e = some (.int .u8)) (hd : P.underlying dst = some .string) :
    ∀ (w : World) (x y : Int), (convert src dst (.slice (some ⟨w.heap.size, 0, none⟩) 2 2)).run P (w.alloc (.cells #[.int .u8 x, .int .u8 y] e)) = .ok (.string (bs [b8 x.toNat, b8 y.toNat])) (w.alloc (.cells #[.int .u8 x, .int .u8 y] e)) := by
  intro w x y
  rw [run_convert_bytes_arg (P := P) (w.alloc (.cells #[.int .u8 x, .int .u8 y] e)) src e hs he w.heap.size 0 2 2 [x, y] rfl _ dst hd]
  · rfl
  · intro i hi
    obtain rfl | rfl : i = 0 ∨ i = 1 := by omega
    · rw [cellRow (rowNew w _)]; rfl
    · rw [cellRow (rowNew w _)]; rfl
theorem wide_at {n k : Nat} (hn : n < 4294967296) (h1 : 1 ≤ k) (h4 : k ≤ kb n) : (k < kb n → wideS n k = [] ∧ wideC n k = 1) ∧ (k = kb n → wideS n k = pad k n ∧ wideC n k = 0) := by
  have hkb := kb_pos n
  constructor
  · intro h
    refine wide_big n k fun hlt => ?_
    have := kb_least n k hlt h1 (by omega)
    omega
  · intro h
    refine wide_yes n k h1 (by omega) ?_
    rw [h]; exact kb_fits n hn
def HdRel (n : Nat) (w : World) (g : Nat) (v5 v6 v7 : Value) (wr : World) : Prop :=
  ∃ k, k + g = kb n ∧ 1 ≤ k ∧ v5 = .int .i64 (k : Nat) ∧ v6 = .string (bs (wideS n k)) ∧ v7 = .int .i64 (wideC n k) ∧ Below w.heap.size w wr
set_option maxRecDepth 100000 in
theorem head_walk (t n : Nat) (ht : t < 256) (hn : n < 4294967296) (w : World) :
    Calls Try.prog 23 #[.int .i64 t, .int .i64 n] w fun e w' => e = .returned (.string (bs (b8 t :: short n))) ∧ Below w.heap.size w w' := by
  have hcv := run_conv_two (P := Try.prog) 52 5 9 Try.underlying52 Try.underlying5 Try.underlying9
  have et : IntKind.u8.wrap (t : Int) = (t : Int) := IntWalk.u8_in _ (by omega)
  by_cases h : n < 128
  · have e : b8 t :: short n = [b8 t, b8 n] := by unfold short; rw [if_pos h]
    rw [e]
    have en : IntKind.u8.wrap (n : Int) = (n : Int) := IntWalk.u8_in _ (by omega)
    have h' : (n : Int) < 128 := by omega
    clear hn e
    go_enter Try.func23, Try.ntmps23
    go_wp2
    go_ret
    exact ⟨by simp, (Below.refl _ _).alloc (Nat.le_refl _) _⟩
  · have e : b8 t :: short n = b8 t :: b8 (128 + kb n) :: pad (kb n) n := by unfold short; rw [if_neg h]
    have HE := Lib.hid e
    have hkb := kb_pos n
    have HW := Lib.hid (fun k h1 h4 => @wide_at n k hn h1 h4)
    have HO := Lib.hid (fun k w1 => octWide_walk (n : Int) k (by omega) (by omega) w1)
    have hpl := pad_length (kb n) n
    have hz0 : (128 : Int) ≤ (n : Nat) := by omega
    have hn2 : ((n : Nat) : Int) < 4294967296 := by omega
    clear e h hn
    generalize hN : ((n : Nat) : Int) = N at *
    go_enter Try.func23, Try.ntmps23
    go_wp2_with fail
    refine (HO.out 1 w).mono ?_
    rintro e w1 ⟨rfl, b1⟩
    go_wp2
    go_loopg [5, 6, 7] (kb n - 1) (fun g v5 v6 v7 wr => HdRel n w g v5 v6 v7 wr)
    case atStart => exact ⟨1, by omega, by omega, rfl, by rw [← hN]; rfl, by rw [← hN]; rfl, b1⟩
    case round =>
      obtain ⟨k, hkg, hk1, rfl, rfl, rfl, hbr⟩ := hrel
      rw [hN]
      obtain ⟨s1, s2⟩ := HW.out k hk1 (by omega)
      cases gk with
      | zero =>
        obtain rfl : k = kb n := by omega
        rw [(s2 rfl).1, (s2 rfl).2]
        clear s1 s2
        have e1 : IntKind.i64.wrap (128 + ((kb n : Nat) : Int)) = 128 + ((kb n : Nat) : Int) := IntWalk.i64_in _ (by omega)
        have e2 : IntKind.u8.wrap (128 + ((kb n : Nat) : Int)) = 128 + ((kb n : Nat) : Int) := IntWalk.u8_in _ (by omega)
        have e3 : (128 + ((kb n : Nat) : Int)).toNat = 128 + kb n := by omega
        have hcat : (9223372036854775807 < 2 + (pad (kb n) n).length) = False := eq_false (by omega)
        generalize pad (kb n) n = PD at *
        clear hkg hk1
        go_wp2
        go_ret
        exact ⟨by rw [HE.out]; simp, hbr.alloc hbr.size _⟩
      | succ g =>
        have hlt : k < kb n := by omega
        rw [(s1 hlt).1, (s1 hlt).2]
        clear s1 s2
        have hk1' := Lib.hid (show ((k : Nat) : Int) + 1 = ((k + 1 : Nat) : Int) by omega)
        go_wp2_with fail
        refine (HO.out _ wr).mono ?_
        rintro e w2 ⟨rfl, b2⟩
        go_wp2
        go_roundg g
        case measure => omega
        case rel => exact ⟨k + 1, by omega, by omega, by simp, by rw [hN, hk1'.out], by rw [hN, hk1'.out], hbr.trans (b2.mono hbr.size)⟩
set_option maxRecDepth 100000 in
theorem wrap_walk (t : Int) (b : List UInt8) (hb : b.length ≤ 140737488351232) (w : World) :
    Calls Try.prog 8 #[.int .i64 t, .string (bs b)] w fun e w' => e = .returned (.tuple #[.string (bs (wrT t b)), .int .i64 (wrE t b : Nat)]) ∧ Below w.heap.size w w' := by
  have hI := istag_walk t w
  cases hi : isTi t
  · have e1 : wrT t b = [] ∧ wrE t b = 1 := by unfold wrT wrE; rw [hi]; exact ⟨rfl, rfl⟩
    rw [e1.1, e1.2]
    rw [hi] at hI
    have HI := Lib.hid hI
    clear hI hi e1
    go_enter Try.func8, Try.ntmps8
    go_wp2_with fail
    refine HI.out.mono ?_
    rintro e w1 ⟨rfl, rfl⟩
    go_wp2
    go_ret2
    exact ⟨rfl, Below.refl _ _⟩
  · rw [hi] at hI
    have HI := Lib.hid hI
    obtain ⟨k, rfl, hk, _⟩ := isTi_nat hi
    by_cases hl : 16777216 < b.length
    · have e1 : wrT (k : Int) b = [] ∧ wrE (k : Int) b = 2 := by unfold wrT wrE; rw [hi, if_pos rfl, if_pos hl, if_pos rfl, if_pos hl]; exact ⟨rfl, rfl⟩
      rw [e1.1, e1.2]
      have hl' : (16777216 : Int) < ((b.length : Nat) : Int) := by omega
      clear hI hi e1 hl
      go_enter Try.func8, Try.ntmps8
      go_wp2_with fail
      refine HI.out.mono ?_
      rintro e w1 ⟨rfl, rfl⟩
      go_wp2
      go_ret2
      exact ⟨rfl, Below.refl _ _⟩
    · have e1 : wrT (k : Int) b = (b8 k :: short b.length) ++ b ∧ wrE (k : Int) b = 0 := by unfold wrT wrE; rw [hi, if_pos rfl, if_neg hl, if_pos rfl, if_neg hl]; exact ⟨by simp [put], rfl⟩
      rw [e1.1, e1.2]
      have HP := Lib.hid (fun w1 => head_walk k b.length hk (by omega) w1)
      have hl' : ((b.length : Nat) : Int) ≤ 16777216 := by omega
      have hsl : (b8 k :: short b.length).length ≤ 6 := by
        rw [List.length_cons, short_len]; have := kb_pos b.length
        by_cases h : b.length < 128
        · rw [if_pos h]; omega
        · rw [if_neg h]; omega
      clear hI hi e1 hl
      generalize b8 k :: short b.length = X at *
      have hcat : (9223372036854775807 < X.length + b.length) = False := eq_false (by omega)
      go_enter Try.func8, Try.ntmps8
      go_wp2_with fail
      refine HI.out.mono ?_
      rintro e w1 ⟨rfl, rfl⟩
      go_wp2_with fail
      refine (HP.out _).mono ?_
      rintro e x1 ⟨rfl, k1⟩
      go_wp2
      go_ret2
      exact ⟨rfl, k1⟩
end Go.Proofs.Ytepgkoafjeacnaa
