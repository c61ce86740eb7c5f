/- Texts on the program and on the document, joined: Bpq, Pts, BerB, BerC. -/
import Derived.Test.YtmdibafofdghgaaGreatDoorMa04
import Derived.Test.YtmdibafofdghgaaGreatDoorMa03
import Derived.IntWalk
import Derived.BigQuiet
import Derived.Deep.QuietTactic
import Derived.Deep.LoopGhost
import Derived.Test.YtmdibafofdghgaaGreatDoorMa01
import Derived.Below
import Derived.Laws.OwnMore
import Derived.Laws.AppendOwn
import Derived.Deep.Onto
import Derived.Test.YtmdibafofdghgaaGreatDoorMa05
import Derived.Test.YtmdibafofdghgaaGreatDoorMa06
import Derived.Test.YtmdibafofdghgaaGreatDoorMa12
/- The document's own length, walked. -/
namespace Go.Proofs.YtmdibafofdghgaaGreatDoor
open Go.ChangeShapes Go.WideShapes Go.ChangeAt Go.RowKit K P1 B5
set_option linter.unusedVariables false

def QlRel (l : List UInt8) (k : Nat) (w : World) (g : Nat) (vn vi : Value) (wr : World) : Prop :=
  ∃ i, i + g = k ∧ vi = .int .i64 ((i : Int) + 1) ∧ vn = .int .i64 ((num ((l.drop 1).take i) : Nat) : Int) ∧ wr = w
set_option maxRecDepth 100000 in
set_option maxHeartbeats 1000000 in
theorem qlen_walk (l : List UInt8) (hl : l.length ≤ 140737488351232) (w : World) :
    Calls Tryz.prog 72 #[.string (bs l)] w fun e w' => e = .returned (.tuple #[.int .i64 ((if lOk l then lV l else 0 : Nat) : Nat), .int .i64 ((if lOk l then lK l else 0 : Nat) : Nat), .bool (lOk l)]) ∧ ∃ m, w' = w.drewN m := by
  by_cases h0 : l = []
  · subst h0
    have h : lOk [] = false := rfl
    rw [h]
    clear h
    go_enter Tryz.func72, Tryz.ntmps72
    go_wp2
    go_ret3
    exact ⟨rfl, 0, rfl⟩
  · have hne : l.isEmpty = false := List.isEmpty_eq_false_iff.2 h0
    have hp := List.length_pos_iff.2 h0
    have hp' : (0 : Int) < ((l.length : Nat) : Int) := by omega
    have hb := byt_lt l 0
    by_cases h1 : byt l 0 < 128
    · have h : lOk l = true := (lOk_iff l).2 ⟨h0, .inl h1⟩
      have hv : lV l = byt l 0 := by unfold lV; rw [if_pos h1]
      have hk : lK l = 1 := by unfold lK; rw [if_pos h1]
      rw [h, if_pos rfl, if_pos rfl, hv, hk]
      have h1' : ((byt l 0 : Nat) : Int) < 128 := by omega
      clear h hv hk h0 hp
      go_enter Tryz.func72, Tryz.ntmps72
      go_wp2
      go_ret3
      exact ⟨rfl, 0, rfl⟩
    · have h1' : (128 : Int) ≤ ((byt l 0 : Nat) : Int) := by omega
      obtain ⟨K, hK⟩ : ∃ K : Nat, byt l 0 = 128 + K := ⟨byt l 0 - 128, by omega⟩
      have hw : IntKind.i64.wrap (((byt l 0 : Nat) : Int) - 128) = (K : Nat) := by
        rw [IntWalk.i64_in _ (by omega)]; omega
      have hw2 : IntKind.i64.wrap (1 + ((K : Nat) : Int)) = 1 + ((K : Nat) : Int) := IntWalk.i64_in _ (by omega)
      by_cases hbad : K < 1 ∨ (1 ≤ K ∧ 4 < K) ∨ (1 ≤ K ∧ K ≤ 4 ∧ l.length < 1 + K)
      · have h : lOk l = false := lOk_no (by
          rintro ⟨_, h2 | ⟨h2, h3, h4⟩⟩
          · omega
          · unfold lK at h4; rw [if_neg h1] at h4; omega)
        rw [h]
        simp only [Bool.false_eq_true, if_false]
        clear h h0 hp h1
        rcases hbad with g1 | ⟨g0, g1⟩ | ⟨g0, g1, g2⟩
        · have g1' : ((K : Nat) : Int) < 1 := by omega
          clear g1 hK
          go_enter Tryz.func72, Tryz.ntmps72
          go_wp2
          go_ret3
          exact ⟨rfl, 0, rfl⟩
        · have g0' : (1 : Int) ≤ (K : Nat) := by omega
          have g1' : (4 : Int) < (K : Nat) := by omega
          clear g0 g1 hK
          go_enter Tryz.func72, Tryz.ntmps72
          go_wp2
          go_ret3
          exact ⟨rfl, 0, rfl⟩
        · have g0' : (1 : Int) ≤ (K : Nat) := by omega
          have g1' : ((K : Nat) : Int) ≤ 4 := by omega
          have g2' : ((l.length : Nat) : Int) < 1 + (K : Nat) := by omega
          clear g0 g1 g2 hK
          go_enter Tryz.func72, Tryz.ntmps72
          go_wp2
          go_ret3
          exact ⟨rfl, 0, rfl⟩
      · have g0 : 1 ≤ K := by omega
        have g1 : K ≤ 4 := by omega
        have g2 : 1 + K ≤ l.length := by omega
        have hk : lK l = 1 + K := by unfold lK; rw [if_neg h1]; omega
        have hv : lV l = num ((l.drop 1).take K) := by
          unfold lV; rw [if_neg h1, show byt l 0 - 128 = K by omega]
        have h : lOk l = true := (lOk_iff l).2 ⟨h0, .inr ⟨by omega, by omega, by omega⟩⟩
        rw [h, if_pos rfl, if_pos rfl, hv, hk]
        have g0' : (1 : Int) ≤ (K : Nat) := by omega
        have g1' : ((K : Nat) : Int) ≤ 4 := by omega
        have g2' : 1 + ((K : Nat) : Int) ≤ (l.length : Nat) := by omega
        have HB := Lib.hid (fun i (hi : i < K) => (show num ((l.drop 1).take (i + 1)) = num ((l.drop 1).take i) * 256 + byt l (i + 1) by
          rw [num_take _ _ (by rw [List.length_drop]; omega), byt_drop, Nat.add_comm 1 i]))
        have HLT := Lib.hid (fun i (hi : i ≤ 4) => (show num ((l.drop 1).take i) < 4294967296 by
          have h3 := num_lt ((l.drop 1).take i)
          have h4 : (256 : Nat) ^ ((l.drop 1).take i).length ≤ 256 ^ 4 := Nat.pow_le_pow_right (by omega) (by rw [List.length_take]; omega)
          have : (256 : Nat) ^ 4 = 4294967296 := by decide
          omega))
        have HLN := Lib.hid g2
        clear h hk hv h0 hp h1 hbad hK g2
        go_enter Tryz.func72, Tryz.ntmps72
        go_wp2
        go_loopg [6, 7] K (fun g vn vi wr => QlRel l K w g vn vi wr)
        case atStart => exact ⟨0, by omega, rfl, by simp [num], rfl⟩
        case round =>
          obtain ⟨i, hig, rfl, rfl, rfl⟩ := hrel
          cases gk with
          | zero =>
            obtain rfl : i = K := by omega
            go_wp2
            go_ret3
            exact ⟨by first | rfl | (congr 3 <;> omega), 0, rfl⟩
          | succ g =>
            have hi : i < K := by omega
            have hi' : ((i : Nat) : Int) + 1 ≤ (K : Nat) := by omega
            have hst := HB.out i hi
            have hl1 := HLT.out i (by omega)
            have hl2 := HLT.out (i + 1) (by omega)
            have hil : ((i : Nat) : Int) + 1 < (l.length : Nat) := by have := HLN.out; omega
            have hbt := byt_lt l (i + 1)
            have y1 : IntKind.i64.wrap (((num ((l.drop 1).take i) : Nat) : Int) * 256) = ((num ((l.drop 1).take i) : Nat) : Int) * 256 := IntWalk.i64_in _ (by omega)
            have y2 : IntKind.i64.wrap (((num ((l.drop 1).take i) : Nat) : Int) * 256 + ((byt l (i + 1) : Nat) : Int)) = ((num ((l.drop 1).take i) : Nat) : Int) * 256 + ((byt l (i + 1) : Nat) : Int) := IntWalk.i64_in _ (by omega)
            have HS := Lib.hid hst
            have HL1 := Lib.hid hl1
            have HBT := Lib.hid hbt
            clear hst hl1 hl2 hbt
            generalize num ((l.drop 1).take i) = X at *
            go_wp2
            go_roundg g
            case measure => omega
            case rel =>
              refine ⟨i + 1, by omega, by simp, ?_, rfl⟩
              have e0 : ∀ n : Int, wrap64 n = IntKind.i64.wrap n := fun n => by rw [wrap64_eq, IntKind.wrap_i64]
              have hbb := HBT.out
              have hxx := HL1.out
              have e1 : wrap64 ((byt l (i + 1) : Nat) : Int) = ((byt l (i + 1) : Nat) : Int) := by rw [e0]; exact IntWalk.i64_in _ (by omega)
              have e2 : wrap64 (((X : Nat) : Int) * 256 + ((byt l (i + 1) : Nat) : Int)) = ((X : Nat) : Int) * 256 + ((byt l (i + 1) : Nat) : Int) := by rw [e0]; exact y2
              have e3 : ((X : Nat) : Int) * 256 + ((byt l (i + 1) : Nat) : Int) = ((X * 256 + byt l (i + 1) : Nat) : Int) := by rw [Int.natCast_add, Int.natCast_mul]; rfl
              rw [HS.out, e1, e2, e3]
end Go.Proofs.YtmdibafofdghgaaGreatDoor
/- A list of pairs (a number, a text) that a call made itself: its cells, and what keeps them. Of no program. -/
namespace Go.Proofs.YtmdibafofdghgaaGreatDoor
open Go.RowKit
namespace K

def pairs (ps : List (Nat × List UInt8)) : List Value := ps.flatMap fun p => [Value.int .i64 (p.1 : Nat), Value.string (bs p.2)]
theorem pairs_app (a b : List (Nat × List UInt8)) : pairs (a ++ b) = pairs a ++ pairs b := by simp [pairs]
theorem pairs_len (ps : List (Nat × List UInt8)) : (pairs ps).length = ps.length * 2 := by
  induction ps with
  | nil => rfl
  | cons p ps ih =>
    show ([Value.int .i64 (p.1 : Nat), Value.string (bs p.2)] ++ pairs ps).length = _
    rw [List.length_append, ih, List.length_cons]; simp; omega
theorem pairs_get : ∀ (ps : List (Nat × List UInt8)) (i : Nat), i < ps.length → (pairs ps)[i * 2]? = some (.int .i64 ((ps.getD i (0, [])).1 : Nat)) ∧ (pairs ps)[i * 2 + 1]? = some (.string (bs (ps.getD i (0, [])).2))
  | [], i, h => by simp at h
  | p :: ps, 0, _ => by constructor <;> rfl
  | p :: ps, i + 1, h => by
    have := pairs_get ps i (by simpa using h)
    have e : pairs (p :: ps) = Value.int .i64 (p.1 : Nat) :: Value.string (bs p.2) :: pairs ps := rfl
    rw [e, show (i + 1) * 2 = i * 2 + 1 + 1 by omega]
    simpa [List.getD] using this
/-- A slice that the call made itself, behind block B, of these pairs; T is the type of its elements. -/
def OwnP (w : World) (B : Nat) (T : TypeId) (v : Value) (ps : List (Nat × List UInt8)) : Prop := w.ownsRow B T 2 v ps.length (pairs ps)
theorem OwnP.nil (w : World) (B : Nat) (T : TypeId) : OwnP w B T (.slice none 0 0) [] := World.ownsRow_nil w B T 2
theorem OwnP.below {w w' : World} {B : Nat} {T : TypeId} {v : Value} {ps : List (Nat × List UInt8)} (h : OwnP w B T v ps) (k : Below w.heap.size w w') : OwnP w' B T v ps := by
  refine ⟨h.1, ?_⟩
  rcases h.2 with hn | ⟨g, cap, cur, h1, h2, h3, h4⟩
  · exact .inl hn
  · exact .inr ⟨g, cap, cur, h1, h2, (k.block g (lt_of_block h3)).trans h3, h4⟩
theorem OwnP.mono {w : World} {B B' : Nat} {T : TypeId} {v : Value} {ps : List (Nat × List UInt8)} (h : OwnP w B T v ps) (hb : B' ≤ B) : OwnP w B' T v ps := World.ownsRow.mono h hb
theorem OwnP.form {w : World} {B : Nat} {T : TypeId} {v : Value} {ps : List (Nat × List UInt8)} (h : OwnP w B T v ps) :
    ∃ ao cap, v = .slice ao ps.length cap ∧ (ps.length = 0 ∨ ∃ g, ao = some ⟨g, 0, none⟩ ∧ B ≤ g ∧ g < w.heap.size ∧
      ∀ i, i < ps.length → w.cell? ⟨g, i * 2, none⟩ = some (.int .i64 ((ps.getD i (0, [])).1 : Nat)) ∧ w.cell? ⟨g, i * 2 + 1, none⟩ = some (.string (bs (ps.getD i (0, [])).2))) := by
  rcases h.2 with ⟨hv, h0⟩ | ⟨g, cap, cur, hv, hB, hh, hle, hm, hs, ht⟩
  · exact ⟨none, 0, by rw [hv, h0], .inl h0⟩
  · refine ⟨some ⟨g, 0, none⟩, cap, hv, .inr ⟨g, rfl, hB, lt_of_block hh, fun i hi => ?_⟩⟩
    obtain ⟨p1, p2⟩ := pairs_get ps i hi
    rw [cellRow hh, cellRow hh, ← Array.getElem?_toList, ← Array.getElem?_toList, ← p1, ← p2, ← ht]
    rw [List.getElem?_take_of_lt (by omega), List.getElem?_take_of_lt (by omega)]
    exact ⟨rfl, rfl⟩
theorem OwnP.put {w : World} {B : Nat} {T : TypeId} {v : Value} {ps : List (Nat × List UInt8)} {t : Nat} {b : List UInt8} (h : w.ownsRow B T 2 v (ps.length + 1) (pairs ps ++ [.int .i64 (t : Nat), .string (bs b)])) : OwnP w B T v (ps ++ [(t, b)]) := by
  unfold OwnP
  rw [List.length_append, pairs_app]
  exact h
end K
end Go.Proofs.YtmdibafofdghgaaGreatDoor
/- ber's head, Wrap, Parts, walked. -/
namespace Go.Proofs.YtmdibafofdghgaaGreatDoor
open Go.ChangeShapes Go.WideShapes Go.ChangeAt Go.RowKit K P1 B5
set_option linter.unusedVariables false

theorem run_conv_two {P : Program} (src e dst : TypeId) (hs : P.underlying src = some (.slice e)) (he : P.underlying e = some (.int .u8)) (hd : P.underlying dst = some .string) :
    ∀ (w : World) (x y : Int), (convert src dst (.slice (some ⟨w.heap.size, 0, none⟩) 2 2)).run P (w.alloc (.cells #[.int .u8 x, .int .u8 y] e)) = .ok (.string (bs [b8 x.toNat, b8 y.toNat])) (w.alloc (.cells #[.int .u8 x, .int .u8 y] e)) := by
  intro w x y
  rw [run_convert_bytes_arg (P := P) (w.alloc (.cells #[.int .u8 x, .int .u8 y] e)) src e hs he w.heap.size 0 2 2 [x, y] rfl _ dst hd]
  · rfl
  · intro i hi
    obtain rfl | rfl : i = 0 ∨ i = 1 := by omega
    · rw [cellRow (rowNew w _)]; rfl
    · rw [cellRow (rowNew w _)]; rfl
theorem wide_at {n k : Nat} (hn : n < 4294967296) (h1 : 1 ≤ k) (h4 : k ≤ kb n) : (k < kb n → wideS n k = [] ∧ wideC n k = 1) ∧ (k = kb n → wideS n k = pad k n ∧ wideC n k = 0) := by
  have hkb := kb_pos n
  constructor
  · intro h
    refine wide_big n k fun hlt => ?_
    have := kb_least n k hlt h1 (by omega)
    omega
  · intro h
    refine wide_yes n k h1 (by omega) ?_
    rw [h]; exact kb_fits n hn
def HdRel (n : Nat) (w : World) (g : Nat) (v5 v6 v7 : Value) (wr : World) : Prop :=
  ∃ k, k + g = kb n ∧ 1 ≤ k ∧ v5 = .int .i64 (k : Nat) ∧ v6 = .string (bs (wideS n k)) ∧ v7 = .int .i64 (wideC n k) ∧ Below w.heap.size w wr
set_option maxRecDepth 100000 in
theorem head_walk (t n : Nat) (ht : t < 256) (hn : n < 4294967296) (w : World) :
    Calls Tryz.prog 104 #[.int .i64 t, .int .i64 n] w fun e w' => e = .returned (.string (bs (b8 t :: short n))) ∧ Below w.heap.size w w' := by
  have hcv := run_conv_two (P := Tryz.prog) 124 5 9 Tryz.underlying124 Tryz.underlying5 Tryz.underlying9
  have et : IntKind.u8.wrap (t : Int) = (t : Int) := IntWalk.u8_in _ (by omega)
  by_cases h : n < 128
  · have e : b8 t :: short n = [b8 t, b8 n] := by unfold short; rw [if_pos h]
    rw [e]
    have en : IntKind.u8.wrap (n : Int) = (n : Int) := IntWalk.u8_in _ (by omega)
    have h' : (n : Int) < 128 := by omega
    clear hn e
    go_enter Tryz.func104, Tryz.ntmps104
    go_wp2
    go_ret
    exact ⟨by simp, (Below.refl _ _).alloc (Nat.le_refl _) _⟩
  · have e : b8 t :: short n = b8 t :: b8 (128 + kb n) :: pad (kb n) n := by unfold short; rw [if_neg h]
    have HE := Lib.hid e
    have hkb := kb_pos n
    have HW := Lib.hid (fun k h1 h4 => @wide_at n k hn h1 h4)
    have HO := Lib.hid (fun k w1 => octWide_walk (n : Int) k (by omega) (by omega) w1)
    have hpl := pad_length (kb n) n
    have hz0 : (128 : Int) ≤ (n : Nat) := by omega
    have hn2 : ((n : Nat) : Int) < 4294967296 := by omega
    clear e h hn
    generalize hN : ((n : Nat) : Int) = N at *
    go_enter Tryz.func104, Tryz.ntmps104
    go_wp2_with fail
    refine (HO.out 1 w).mono ?_
    rintro e w1 ⟨rfl, b1⟩
    go_wp2
    go_loopg [5, 6, 7] (kb n - 1) (fun g v5 v6 v7 wr => HdRel n w g v5 v6 v7 wr)
    case atStart => exact ⟨1, by omega, by omega, rfl, by rw [← hN]; rfl, by rw [← hN]; rfl, b1⟩
    case round =>
      obtain ⟨k, hkg, hk1, rfl, rfl, rfl, hbr⟩ := hrel
      rw [hN]
      obtain ⟨s1, s2⟩ := HW.out k hk1 (by omega)
      cases gk with
      | zero =>
        obtain rfl : k = kb n := by omega
        rw [(s2 rfl).1, (s2 rfl).2]
        clear s1 s2
        have e1 : IntKind.i64.wrap (128 + ((kb n : Nat) : Int)) = 128 + ((kb n : Nat) : Int) := IntWalk.i64_in _ (by omega)
        have e2 : IntKind.u8.wrap (128 + ((kb n : Nat) : Int)) = 128 + ((kb n : Nat) : Int) := IntWalk.u8_in _ (by omega)
        have e3 : (128 + ((kb n : Nat) : Int)).toNat = 128 + kb n := by omega
        have hcat : (9223372036854775807 < 2 + (pad (kb n) n).length) = False := eq_false (by omega)
        generalize pad (kb n) n = PD at *
        clear hkg hk1
        go_wp2
        go_ret
        exact ⟨by rw [HE.out]; simp, hbr.alloc hbr.size _⟩
      | succ g =>
        have hlt : k < kb n := by omega
        rw [(s1 hlt).1, (s1 hlt).2]
        clear s1 s2
        have hk1' := Lib.hid (show ((k : Nat) : Int) + 1 = ((k + 1 : Nat) : Int) by omega)
        go_wp2_with fail
        refine (HO.out _ wr).mono ?_
        rintro e w2 ⟨rfl, b2⟩
        go_wp2
        go_roundg g
        case measure => omega
        case rel => exact ⟨k + 1, by omega, by omega, by simp, by rw [hN, hk1'.out], by rw [hN, hk1'.out], hbr.trans (b2.mono hbr.size)⟩
set_option maxRecDepth 100000 in
theorem wrap_walk (t : Int) (b : List UInt8) (hb : b.length ≤ 140737488351232) (w : World) :
    Calls Tryz.prog 80 #[.int .i64 t, .string (bs b)] w fun e w' => e = .returned (.tuple #[.string (bs (wrT t b)), .int .i64 (wrE t b : Nat)]) ∧ Below w.heap.size w w' := by
  have hI := istag_walk t w
  cases hi : isTi t
  · have e1 : wrT t b = [] ∧ wrE t b = 1 := by unfold wrT wrE; rw [hi]; exact ⟨rfl, rfl⟩
    rw [e1.1, e1.2]
    rw [hi] at hI
    have HI := Lib.hid hI
    clear hI hi e1
    go_enter Tryz.func80, Tryz.ntmps80
    go_wp2_with fail
    refine HI.out.mono ?_
    rintro e w1 ⟨rfl, rfl⟩
    go_wp2
    go_ret2
    exact ⟨rfl, Below.refl _ _⟩
  · rw [hi] at hI
    have HI := Lib.hid hI
    obtain ⟨k, rfl, hk, _⟩ := isTi_nat hi
    by_cases hl : 16777216 < b.length
    · have e1 : wrT (k : Int) b = [] ∧ wrE (k : Int) b = 2 := by unfold wrT wrE; rw [hi, if_pos rfl, if_pos hl, if_pos rfl, if_pos hl]; exact ⟨rfl, rfl⟩
      rw [e1.1, e1.2]
      have hl' : (16777216 : Int) < ((b.length : Nat) : Int) := by omega
      clear hI hi e1 hl
      go_enter Tryz.func80, Tryz.ntmps80
      go_wp2_with fail
      refine HI.out.mono ?_
      rintro e w1 ⟨rfl, rfl⟩
      go_wp2
      go_ret2
      exact ⟨rfl, Below.refl _ _⟩
    · have e1 : wrT (k : Int) b = (b8 k :: short b.length) ++ b ∧ wrE (k : Int) b = 0 := by unfold wrT wrE; rw [hi, if_pos rfl, if_neg hl, if_pos rfl, if_neg hl]; exact ⟨by simp [put], rfl⟩
      rw [e1.1, e1.2]
      have HP := Lib.hid (fun w1 => head_walk k b.length hk (by omega) w1)
      have hl' : ((b.length : Nat) : Int) ≤ 16777216 := by omega
      have hsl : (b8 k :: short b.length).length ≤ 6 := by
        rw [List.length_cons, short_len]; have := kb_pos b.length
        by_cases h : b.length < 128
        · rw [if_pos h]; omega
        · rw [if_neg h]; omega
      clear hI hi e1 hl
      generalize b8 k :: short b.length = X at *
      have hcat : (9223372036854775807 < X.length + b.length) = False := eq_false (by omega)
      go_enter Tryz.func80, Tryz.ntmps80
      go_wp2_with fail
      refine HI.out.mono ?_
      rintro e w1 ⟨rfl, rfl⟩
      go_wp2_with fail
      refine (HP.out _).mono ?_
      rintro e x1 ⟨rfl, k1⟩
      go_wp2
      go_ret2
      exact ⟨rfl, k1⟩
end Go.Proofs.YtmdibafofdghgaaGreatDoor
/- ber.Parts, walked; what it tells, plain. -/
namespace Go.Proofs.YtmdibafofdghgaaGreatDoor
open Go.ChangeShapes Go.WideShapes Go.ChangeAt Go.RowKit K P1 B5
set_option linter.unusedVariables false

def PaPost (l : List UInt8) (w : World) (e : Ending) (w' : World) : Prop :=
  (∃ c : Nat, prt 0 l = .error c ∧ e = .returned (.tuple #[.slice none 0 0, .int .i64 (c : Nat)]) ∧ Below w.heap.size w w') ∨
  (∃ ps v, prt 0 l = .ok ps ∧ e = .returned (.tuple #[v, .int .i64 0]) ∧ OwnP w' w.heap.size 72 v ps ∧ Below w.heap.size w w')
theorem part_infoC : (Tryz.prog.info? 72).map (fun i => (i.zero, i.size, i.bytes)) = some (some (.agg #[.int .i64 0, .string .empty]), 2, 24) := by kernel_rfl
def PaRel (l : List UInt8) (w : World) (g : Nat) (v0 v4 : Value) (wr : World) : Prop :=
  ∃ s ps, s.length ≤ g ∧ s.length ≤ l.length ∧ v0 = .string (bs s) ∧ OwnP wr w.heap.size 72 v4 ps ∧ ps.length ≤ 4096 ∧ prt 0 l = ahd ps (prt ps.length s) ∧ Below w.heap.size w wr
theorem nxQ_ok {s : List UInt8} (h : nxOk s = true) : nxQ s = (nxT s, nxB s, nxR s) ∧ nxE s = 0 := by unfold nxQ nxE; rw [h]; exact ⟨rfl, rfl⟩
theorem nxQ_no {s : List UInt8} (h : nxOk s = false) : nxQ s = (0, [], []) ∧ nxE s = 50 := by unfold nxQ nxE; rw [h]; exact ⟨rfl, rfl⟩
theorem next_ok (s : List UInt8) (hs : s.length ≤ 140737488351232) (h : nxOk s = true) (w : World) :
    Calls Tryz.prog 40 #[.string (bs s)] w fun e w' => e = .returned (.tuple #[.agg #[.int .i64 (nxT s : Nat), .string (bs (nxB s))], .string (bs (nxR s)), .int .i64 0]) ∧ Below w.heap.size w w' := by
  have := next_walk s hs w
  rw [(nxQ_ok h).1, (nxQ_ok h).2] at this
  exact this
theorem next_no (s : List UInt8) (hs : s.length ≤ 140737488351232) (h : nxOk s = false) (w : World) :
    Calls Tryz.prog 40 #[.string (bs s)] w fun e w' => e = .returned (.tuple #[.agg #[.int .i64 0, .string (bs [])], .string (bs []), .int .i64 50]) ∧ Below w.heap.size w w' := by
  have := next_walk s hs w
  rw [(nxQ_no h).1, (nxQ_no h).2] at this
  exact this
set_option maxRecDepth 100000 in
set_option maxHeartbeats 2000000 in
theorem parts_list_walk (l : List UInt8) (hl : l.length ≤ 140737488351232) (w : World) :
    Calls Tryz.prog 41 #[.string (bs l)] w (PaPost l w) := by
  obtain ⟨i0, hi, hz0, hz1, hz2⟩ := (show ∃ i, Tryz.prog.info? 72 = some i ∧ i.zero = some (.agg #[.int .i64 0, .string .empty]) ∧ i.size = 2 ∧ i.bytes = 24 by
    obtain ⟨i, h1, h2⟩ := Option.map_eq_some_iff.1 part_infoC
    simp only [Prod.mk.injEq] at h2
    exact ⟨i, h1, h2.1, h2.2.1, h2.2.2⟩)
  go_enter Tryz.func41, Tryz.ntmps41
  go_wp2
  go_loopg [0, 4] l.length (fun g v0 v4 wr => PaRel l w g v0 v4 wr)
  case atStart => exact ⟨l, [], Nat.le_refl _, Nat.le_refl _, rfl, OwnP.nil _ _ _, by simp, (ahd_nil _).symm, Below.refl _ _⟩
  case round =>
    obtain ⟨s, ps, hg, hsl, rfl, ho, hp, hE, hb⟩ := hrel
    by_cases hs : s = []
    · subst hs
      have hE2 : prt 0 l = .ok ps := by rw [hE]; show ahd ps (.ok []) = _; simp [ahd]
      have HE := Lib.hid hE2
      clear hE hE2 hg hsl
      go_wp2
      go_ret2
      exact .inr ⟨ps, _, HE.out, rfl, ho, hb⟩
    · have hne : s.isEmpty = false := List.isEmpty_eq_false_iff.2 hs
      cases hx : nxOk s
      · have HF := Lib.hid (next_no s (by omega) hx wr)
        have HE := Lib.hid (hE.trans (ahd_bad ps hs hx))
        clear hE hx hs hg ho
        go_wp2_with fail
        refine HF.out.mono ?_
        rintro e w1 ⟨rfl, d1⟩
        have hb1 := hb.trans (d1.mono hb.size)
        clear d1 hb
        go_wp2
        go_ret2
        exact .inl ⟨50, HE.out, rfl, hb1.alloc hb1.size _⟩
      · have HF := Lib.hid (next_ok s (by omega) hx wr)
        obtain ⟨_, _, _, _, h5⟩ := nx_of hx
        obtain ⟨ao, cap, rfl, hf⟩ := ho.form
        clear hf
        by_cases hc : ps.length = 4096
        · have HE := Lib.hid (hE.trans (ahd_many ps hx hc))
          clear hE hx hs hg ho
          go_wp2_with fail
          refine HF.out.mono ?_
          rintro e w1 ⟨rfl, d1⟩
          have hb1 := hb.trans (d1.mono hb.size)
          clear d1 hb
          rw [hc]
          go_wp2
          go_ret2
          exact .inl ⟨2, HE.out, rfl, hb1.alloc hb1.size _⟩
        · have HE := Lib.hid (hE.trans (ahd_one ps hx hc))
          have hcc : (((ps.length : Nat) : Int) == 4096) = false := by rw [beq_eq_false_iff_ne]; omega
          have hlt : ps.length < 4096 := by omega
          have HH := Lib.hid h5
          have HG := Lib.hid hg
          have HSL := Lib.hid hsl
          generalize nxT s = T at *
          generalize nxB s = BD at *
          generalize nxR s = RS at *
          clear hE hx hs hc h5 hg hsl
          go_wp2_with fail
          refine HF.out.mono ?_
          rintro e w3 ⟨rfl, d1⟩
          have ho3 := ho.below d1
          have hb3 := hb.trans (d1.mono hb.size)
          clear d1 hb ho
          go_wp2_with (at_builtin; refine wpList_append_own _ rfl _ _ 75 rfl w.heap.size 72 i0 (.agg #[.int .i64 0, .string .empty]) 2 24 Tryz.underlying75 hi hz0 hz1 hz2 rfl (by decide) _ _ _ rfl (World.ownsRow.alloc (World.ownsRow.alloc ho3 _) _) _ 1 1 [.int .i64 (T : Nat), .string (bs BD)] rfl rfl ?c1 ?c2 ?c3 ?c4 ?c5 ?_)
          case c1 =>
            have hrn := rowNew (w3.alloc (.cells #[.int .i64 (T : Nat), .string (bs BD)] 72)) (.cells #[.int .i64 (T : Nat), .string (bs BD)] 72)
            rw [show (w3.alloc (.cells #[.int .i64 (T : Nat), .string (bs BD)] 72)).heap.size = w3.heap.size + 1 by simp] at hrn
            intro j u hj
            match j, hj with
            | 0, hj => simp at hj; subst hj; exact cellRow hrn 0
            | 1, hj => simp at hj; subst hj; exact cellRow hrn 1
            | j + 2, hj => simp at hj
          case c2 =>
            intro u hu
            simp at hu
            rcases hu with rfl | rfl
            · rfl
            · rfl
          case c3 => unfold maxLen; omega
          case c4 => omega
          case c5 => have := hb3.size; simp; omega
          intro v' w4 hown' hgrow _
          have hb4 := ((hb3.alloc (by have := hb3.size; omega) (.cells #[.int .i64 (T : Nat), .string (bs BD)] 72)).alloc (by have := hb3.size; simp; omega) (.cells #[.int .i64 (T : Nat), .string (bs BD)] 72)).grown hgrow (by have := hb3.size; simp; omega) (fun k hk => (World.ownsRow.lt ho3 k hk).1)
          have ho4 : OwnP w4 w.heap.size 72 v' (ps ++ [(T, BD)]) := OwnP.put hown'
          clear hown' hgrow ho3 hb3
          go_wp2
          go_roundg RS.length
          case measure => have := HG.out; have := HH.out; omega
          case rel => exact ⟨RS, ps ++ [(T, BD)], Nat.le_refl _, by have := HSL.out; have := HH.out; omega, rfl, ho4, by rw [List.length_append]; exact hlt, HE.out, hb4⟩
end Go.Proofs.YtmdibafofdghgaaGreatDoor
