/- Texts on the program and on the document, joined: ValA, Row, OidA. -/
import Derived.Test.YtmdibafofdghgaaGreatDoorMa07
import Derived.Test.YtmdibafofdghgaaGreatDoorMa08
import Derived.Test.YtmdibafofdghgaaGreatDoorMa01
import Derived.Below
import Derived.Laws.OwnMore
import Derived.Laws.AppendOwn
import Derived.Deep.AppendLies
import Derived.Deep.Onto
import Derived.Test.YtmdibafofdghgaaGreatDoorRows
import Derived.ProofKit
import Derived.IntWalk
import Derived.Deep.LoopGhost
/- The document's Number and Unsigned, walked. -/
namespace Go.Proofs.YtmdibafofdghgaaGreatDoor
open Go.ChangeShapes Go.WideShapes Go.ChangeAt Go.RowKit K P1 B5
set_option linter.unusedVariables false

theorem same_ways (s : List UInt8) : (same9 s = true ∧ ((((byt s 0 : Nat) : Int) == 0) = true ∧ byt s 1 < 128 ∨ (((byt s 0 : Nat) : Int) == 0) = false ∧ (((byt s 0 : Nat) : Int) == 255) = true ∧ 128 ≤ byt s 1)) ∨
    (same9 s = false ∧ ((((byt s 0 : Nat) : Int) == 0) = true ∧ (((byt s 0 : Nat) : Int) == 255) = false ∧ 128 ≤ byt s 1 ∨ (((byt s 0 : Nat) : Int) == 0) = false ∧ (((byt s 0 : Nat) : Int) == 255) = true ∧ byt s 1 < 128 ∨ (((byt s 0 : Nat) : Int) == 0) = false ∧ (((byt s 0 : Nat) : Int) == 255) = false)) := by
  have f0 : (((byt s 0 : Nat) : Int) == 0) = (byt s 0 == 0) := by rw [Bool.eq_iff_iff, beq_iff_eq, beq_iff_eq]; omega
  have f1 : (((byt s 0 : Nat) : Int) == 255) = (byt s 0 == 255) := by rw [Bool.eq_iff_iff, beq_iff_eq, beq_iff_eq]; omega
  rw [f0, f1]
  unfold same9
  by_cases c0 : byt s 0 = 0
  · rw [c0]
    by_cases c1 : byt s 1 < 128
    · left; simp [c1]
    · right; simp [c1]; omega
  · by_cases c2 : byt s 0 = 255
    · rw [c2]
      by_cases c1 : byt s 1 < 128
      · right; simp [c1]
      · left; simp; omega
    · right; simp [c0, c2]
theorem nu_no {l : List UInt8} (h : nOk l = false) : nuV l = 0 ∧ nuE l = 50 := by unfold nuV nuE; rw [h]; exact ⟨rfl, rfl⟩
theorem nu_yes {l : List UInt8} (h : nOk l = true) : nuV l = nv l ∧ nuE l = 0 := by unfold nuV nuE; rw [h]; exact ⟨rfl, rfl⟩
theorem uu_no {l : List UInt8} (h : uOk l = false) : uuV l = 0 ∧ uuE l = 50 := by unfold uuV uuE; rw [h]; exact ⟨rfl, rfl⟩
theorem uu_yes {l : List UInt8} (h : uOk l = true) : uuV l = uv l ∧ uuE l = 0 := by unfold uuV uuE; rw [h]; exact ⟨rfl, rfl⟩
theorem sh_ways {l : List UInt8} (h : isSh l = true) :
    (((l.length : Nat) : Int) ≤ 1 ∧ byt l 0 < 128) ∨ (((l.length : Nat) : Int) ≤ 1 ∧ 128 ≤ byt l 0) ∨
    ((1 : Int) < ((l.length : Nat) : Int) ∧ (((byt l 0 : Nat) : Int) == 0) = true ∧ (((byt l 0 : Nat) : Int) == 255) = false ∧ 128 ≤ byt l 1 ∧ byt l 0 < 128) ∨
    ((1 : Int) < ((l.length : Nat) : Int) ∧ (((byt l 0 : Nat) : Int) == 0) = false ∧ (((byt l 0 : Nat) : Int) == 255) = true ∧ byt l 1 < 128 ∧ 128 ≤ byt l 0) ∨
    ((1 : Int) < ((l.length : Nat) : Int) ∧ (((byt l 0 : Nat) : Int) == 0) = false ∧ (((byt l 0 : Nat) : Int) == 255) = false ∧ byt l 0 < 128) ∨
    ((1 : Int) < ((l.length : Nat) : Int) ∧ (((byt l 0 : Nat) : Int) == 0) = false ∧ (((byt l 0 : Nat) : Int) == 255) = false ∧ 128 ≤ byt l 0) := by
  have hl := (nOk_yes h).2
  by_cases h1 : l.length ≤ 1
  · by_cases hc : byt l 0 < 128
    · exact .inl ⟨by omega, hc⟩
    · exact .inr (.inl ⟨by omega, by omega⟩)
  · right; right
    rw [isSh_step (by omega)] at h
    have hs : same9 l = false := by simpa using h
    rcases same_ways l with ⟨a, _⟩ | ⟨_, c⟩
    · rw [hs] at a; cases a
    · rcases c with ⟨c0, c1, c2⟩ | ⟨c0, c1, c2⟩ | ⟨c0, c1⟩
      · exact .inl ⟨by omega, c0, c1, c2, by have := beq_iff_eq.1 c0; omega⟩
      · exact .inr (.inl ⟨by omega, c0, c1, c2, by have := beq_iff_eq.1 c1; omega⟩)
      · by_cases hc : byt l 0 < 128
        · exact .inr (.inr (.inl ⟨by omega, c0, c1, hc⟩))
        · exact .inr (.inr (.inr ⟨by omega, c0, c1, by omega⟩))
set_option maxRecDepth 100000 in
set_option maxHeartbeats 1000000 in
theorem qbnumber_walk (l : List UInt8) (hl : l.length ≤ 140737488351232) (w : World) :
    Calls Tryz.prog 28 #[.string (bs l)] w fun e w' => e = .returned (.tuple #[.int .i64 (nuV l), .int .i64 (nuE l : Nat)]) ∧ w = w' := by
  by_cases h1 : l.length < 1
  · obtain ⟨e1, e2⟩ := nu_no (l := l) (by unfold nOk; rw [decide_eq_false (by omega)]; rfl)
    rw [e1, e2]
    go_enter Tryz.func28, Tryz.ntmps28
    go_wp2
    go_ret2
    exact ⟨rfl, rfl⟩
  by_cases h8 : 8 < l.length
  · obtain ⟨e1, e2⟩ := nu_no (l := l) (by unfold nOk; rw [decide_eq_false (by omega : ¬ l.length ≤ 8)]; simp)
    rw [e1, e2]
    go_enter Tryz.func28, Tryz.ntmps28
    go_wp2
    go_ret2
    exact ⟨rfl, rfl⟩
  have h1' : 1 ≤ l.length := by omega
  have h8' : l.length ≤ 8 := by omega
  clear h1 h8
  cases hs : isSh l
  · obtain ⟨e1, e2⟩ := nu_no (nOk_no hs)
    rw [e1, e2]
    have h2 : 2 ≤ l.length := by
      rcases Nat.lt_or_ge l.length 2 with h | h
      · rw [isSh_one (by omega)] at hs; cases hs
      · exact h
    rw [isSh_step h2] at hs
    have hs9 : same9 l = true := by simpa using hs
    rcases same_ways l with ⟨_, c⟩ | ⟨a, _⟩
    · clear hs hs9 e1 e2
      rcases c with ⟨c0, c1⟩ | ⟨c0, c1, c2⟩
      all_goals
        go_enter Tryz.func28, Tryz.ntmps28
        go_wp2
        go_ret2
        exact ⟨rfl, rfl⟩
    · rw [hs9] at a; cases a
  · have hok : nOk l = true := by rw [(nOk_yes hs).1]; exact decide_eq_true h8'
    obtain ⟨e1, e2⟩ := nu_yes hok
    rw [e1, e2]
    have hn0 : nvi l 0 = if byt l 0 < 128 then 0 else -1 := by unfold nvi; simp [num]
    have HN0 := Lib.hid hn0
    have HN := Lib.hid (nvi_all l)
    have HR := Lib.hid (nv_range l h1' h8')
    have HT := Lib.hid (fun i h => nvi_step l i h)
    have hw := sh_ways hs
    clear hs hok e1 e2 hn0
    rcases hw with ⟨c0, cs⟩ | ⟨c0, cs⟩ | ⟨c0, c1, c2, c3, cs⟩ | ⟨c0, c1, c2, c3, cs⟩ | ⟨c0, c1, c2, cs⟩ | ⟨c0, c1, c2, cs⟩
    all_goals
      have hst : wrap64 (nvi l 0) = 0 ∧ byt l 0 < 128 ∨ wrap64 (nvi l 0) = -1 ∧ 128 ≤ byt l 0 := by
        rw [HN0.out, wrap64_eq]
        by_cases hneg : byt l 0 < 128
        · rw [if_pos hneg]; exact .inl ⟨by omega, hneg⟩
        · rw [if_neg hneg]; exact .inr ⟨by omega, by omega⟩
      rcases hst with ⟨hst, hcs⟩ | ⟨hst, hcs⟩
      all_goals first
        | (exfalso; omega)
        | skip
      have HST := Lib.hid hst
      clear hst hcs
      go_enter Tryz.func28, Tryz.ntmps28
      go_wp2
      go_loop [4, 5] (fun vn vi => NbRel l vn vi) (fun vn vi => l.length - (intOf vi).toNat)
      case atStart => exact ⟨0, _, Nat.zero_le _, rfl, HST.out.symm, rfl⟩
      case round =>
        obtain ⟨i, x, hi, rfl, hx, rfl⟩ := hrel
        by_cases hlt : i < l.length
        · have hnt := HT.out i hlt
          have hbb := byt_lt l i
          have hbo := bits_shl_orI (nvi l i) (byt l i) hbb
          rw [← hx, ← hnt] at hbo
          clear hx hnt cs
          have HB := Lib.hid hbo
          clear hbo
          go_wp2
          go_round
          case measure => simp [intOf]; omega
          case rel => exact ⟨i + 1, _, by omega, rfl, HB.out, by simp⟩
        · obtain rfl : i = l.length := by omega
          have hxx : x = nv l := by
            rw [hx, HN.out, wrap64_eq]
            have := HR.out
            omega
          have HX := Lib.hid hxx
          clear hx hlt hi hxx cs
          go_wp2
          go_ret2
          rw [HX.out]
          exact ⟨rfl, rfl⟩
def UqRel (l : List UInt8) (vn vi : Value) : Prop := ∃ i : Nat, 1 ≤ i ∧ i ≤ 9 ∧ vn = .int .u64 (uvi l i : Nat) ∧ vi = .int .i64 i
/-- The one of nine bytes, and all others. -/
theorem u_ways (l : List UInt8) :
    (l.length = 9 ∧ (((l.length : Nat) : Int) == 9) = true ∧ (((byt l 0 : Nat) : Int) == 0) = true ∧ 128 ≤ byt l 1 ∧ uOk l = true ∧ uv l = (uvi l 9 : Nat) ∧ uvi l 1 = 0) ∨
    (uOk l = (nOk l && decide (0 ≤ nv l)) ∧ (nOk l = true → uv l = nv l ∧ nv l ≤ 9223372036854775807) ∧
      ((((l.length : Nat) : Int) == 9) = false ∨ (l.length = 9 ∧ (((l.length : Nat) : Int) == 9) = true ∧ (((byt l 0 : Nat) : Int) == 0) = false) ∨ (l.length = 9 ∧ (((l.length : Nat) : Int) == 9) = true ∧ (((byt l 0 : Nat) : Int) == 0) = true ∧ byt l 1 < 128))) := by
  have hnr : nOk l = true → uv l = nv l ∧ nv l ≤ 9223372036854775807 := by
    intro h
    refine ⟨?_, (V7.nv_bounds h).2⟩
    unfold nOk at h
    simp only [Bool.and_eq_true, decide_eq_true_eq] at h
    unfold uv; rw [if_neg (by omega)]
  by_cases h9 : l.length = 9
  · have q9 : (((l.length : Nat) : Int) == 9) = true := by rw [beq_iff_eq]; omega
    by_cases h0 : byt l 0 = 0
    · have q0 : (((byt l 0 : Nat) : Int) == 0) = true := by rw [beq_iff_eq]; omega
      by_cases h1 : byt l 1 < 128
      · exact .inr ⟨by unfold uOk; rw [h9, h0, decide_eq_false (by omega : ¬ 128 ≤ byt l 1)]; simp, hnr, .inr (.inr ⟨h9, q9, q0, h1⟩)⟩
      · left
        have hu : uOk l = true := by unfold uOk; rw [h9, h0, decide_eq_true (by omega : 128 ≤ byt l 1)]; rfl
        have hsh : isSh l = true := by
          rw [isSh_step (by omega)]; unfold same9; rw [h0, decide_eq_false h1]; rfl
        have hv : uv l = (uvi l 9 : Nat) := by
          rcases uOk_ways hsh with ⟨a, _⟩ | ⟨a, _⟩ | ⟨a, _⟩ | ⟨_, _, _, _, e⟩
          · rw [hu] at a; cases a
          · rw [hu] at a; cases a
          · rw [hu] at a; cases a
          · rw [e, h9]
        refine ⟨h9, q9, q0, by omega, hu, hv, ?_⟩
        have := uvi_step l 0 (by omega)
        rw [this, h0]
        simp [uvi, num]
    · exact .inr ⟨by unfold uOk; rw [show (byt l 0 == 0) = false by rw [beq_eq_false_iff_ne]; exact h0]; simp, hnr, .inr (.inl ⟨h9, q9, by rw [beq_eq_false_iff_ne]; omega⟩)⟩
  · exact .inr ⟨by unfold uOk; rw [show (l.length == 9) = false by rw [beq_eq_false_iff_ne]; exact h9]; rfl, hnr, .inl (by rw [beq_eq_false_iff_ne]; omega)⟩
set_option maxRecDepth 100000 in
set_option maxHeartbeats 1000000 in
theorem qbunsigned_walk (l : List UInt8) (hl : l.length ≤ 140737488351232) (w : World) :
    Calls Tryz.prog 97 #[.string (bs l)] w fun e w' => e = .returned (.tuple #[.int .u64 (uuV l), .int .i64 (uuE l : Nat)]) ∧ w = w' := by
  rcases u_ways l with ⟨h9, q9, q0, q1, hu, hv, hz⟩ | ⟨hu, hnr, hq⟩
  · obtain ⟨e1, e2⟩ := uu_yes hu
    rw [e1, e2, hv]
    have HT := Lib.hid (fun i h => uvi_step l i h)
    have HZ := Lib.hid hz
    clear hu hv hz e1 e2
    go_enter Tryz.func97, Tryz.ntmps97
    go_wp2
    go_loop [4, 5] (fun vn vi => UqRel l vn vi) (fun vn vi => 9 - (intOf vi).toNat)
    case atStart => exact ⟨1, by omega, by omega, by rw [HZ.out]; rfl, rfl⟩
    case round =>
      obtain ⟨i, hi1, hi, rfl, rfl⟩ := hrel
      by_cases hlt : i < 9
      · have hnt := HT.out i (by omega)
        have hbb := byt_lt l i
        have hbo := bits_shl_orU (uvi l i) (byt l i) hbb
        rw [← hnt] at hbo
        generalize uvi l i = x at *
        clear hnt
        have HB := Lib.hid hbo
        clear hbo
        go_wp2
        go_round
        case measure => simp [intOf]; omega
        case rel => exact ⟨i + 1, by omega, by omega, by rw [← HB.out]; simp [IntKind.wrap, IntKind.signed, IntKind.bits], by simp⟩
      · obtain rfl : i = 9 := by omega
        clear hlt hi
        go_wp2
        go_ret2
        exact ⟨rfl, rfl⟩
  · have hN := qbnumber_walk l hl w
    have hw : (nuE l = 50 ∧ uuV l = 0 ∧ uuE l = 50) ∨ (nuE l = 0 ∧ nuV l < 0 ∧ uuV l = 0 ∧ uuE l = 50) ∨ (nuE l = 0 ∧ 0 ≤ nuV l ∧ IntKind.u64.wrap (nuV l) = nuV l ∧ uuV l = nuV l ∧ uuE l = 0) := by
      cases hn : nOk l
      · rw [hn] at hu
        obtain ⟨a1, a2⟩ := nu_no hn
        obtain ⟨b1, b2⟩ := uu_no hu
        exact .inl ⟨a2, b1, b2⟩
      · obtain ⟨a1, a2⟩ := nu_yes hn
        obtain ⟨v1, v2⟩ := hnr hn
        rw [hn, Bool.true_and] at hu
        by_cases h0 : 0 ≤ nv l
        · rw [decide_eq_true h0] at hu
          obtain ⟨b1, b2⟩ := uu_yes hu
          refine .inr (.inr ⟨a2, by omega, ?_, by omega, b2⟩)
          rw [a1]; simp [IntKind.wrap, IntKind.signed, IntKind.bits]; omega
        · rw [decide_eq_false h0] at hu
          obtain ⟨b1, b2⟩ := uu_no hu
          exact .inr (.inl ⟨a2, by omega, b1, b2⟩)
    clear hu hnr
    rcases hw with ⟨n1, u1, u2⟩ | ⟨n1, n2, u1, u2⟩ | ⟨n1, n2, n3, u1, u2⟩
    all_goals
      rw [u1, u2]
      rw [n1] at hN
      have HNN := Lib.hid hN
      clear hN n1 u1 u2
      try generalize nuV l = x at *
      rcases hq with q9 | ⟨_, q9, q0⟩ | ⟨_, q9, q0, q1⟩
      all_goals
        go_enter Tryz.func97, Tryz.ntmps97
        go_wp2_with fail
        refine HNN.out.mono ?_
        rintro e w1 ⟨rfl, rfl⟩
        go_wp2
        go_ret2
        exact ⟨rfl, rfl⟩
end Go.Proofs.YtmdibafofdghgaaGreatDoor
/- A list of numbers that a call made itself: its cells, and what keeps them. Of no program. -/
namespace Go.Proofs.YtmdibafofdghgaaGreatDoor
open Go.RowKit
namespace K

/-- Numbers as cells. -/
def nums (cs : List Nat) : List Value := cs.map fun c => Value.int .i64 (c : Nat)
theorem nums_len (cs : List Nat) : (nums cs).length = cs.length := by simp [nums]
theorem nums_app (a b : List Nat) : nums (a ++ b) = nums a ++ nums b := by simp [nums]
theorem nums_get (cs : List Nat) (i : Nat) (h : i < cs.length) : (nums cs)[i]? = some (.int .i64 ((cs.getD i 0 : Nat) : Int)) := by
  simp [nums, List.getElem?_eq_getElem h, List.getD]
/-- A slice that the call made itself, behind block B, of these numbers; T is the type of its elements. -/
def OwnI (w : World) (B : Nat) (T : TypeId) (v : Value) (cs : List Nat) : Prop := w.ownsRow B T 1 v cs.length (nums cs)
theorem OwnI.nil (w : World) (B : Nat) (T : TypeId) : OwnI w B T (.slice none 0 0) [] := World.ownsRow_nil w B T 1
theorem OwnI.below {w w' : World} {B : Nat} {T : TypeId} {v : Value} {cs : List Nat} (h : OwnI w B T v cs) (k : Below w.heap.size w w') : OwnI w' B T v cs := by
  refine ⟨h.1, ?_⟩
  rcases h.2 with hn | ⟨g, cap, cur, h1, h2, h3, h4⟩
  · exact .inl hn
  · exact .inr ⟨g, cap, cur, h1, h2, (k.block g (lt_of_block h3)).trans h3, h4⟩
theorem OwnI.drewN {w : World} {B : Nat} {T : TypeId} {v : Value} {cs : List Nat} (h : OwnI w B T v cs) (n : Nat) : OwnI (w.drewN n) B T v cs := h
theorem OwnI.mono {w : World} {B B' : Nat} {T : TypeId} {v : Value} {cs : List Nat} (h : OwnI w B T v cs) (hb : B' ≤ B) : OwnI w B' T v cs := World.ownsRow.mono h hb
/-- Its shape: where it lies, and its cells. -/
theorem OwnI.form {w : World} {B : Nat} {T : TypeId} {v : Value} {cs : List Nat} (h : OwnI w B T v cs) :
    ∃ ao cap, v = .slice ao cs.length cap ∧ (cs.length = 0 ∨ ∃ g, ao = some ⟨g, 0, none⟩ ∧ B ≤ g ∧ g < w.heap.size ∧ ∀ i, i < cs.length → w.cell? ⟨g, i, none⟩ = some (.int .i64 ((cs.getD i 0 : Nat) : Int)) ∧ w.frozen? ⟨g, i, none⟩ = false) := by
  rcases h.2 with ⟨hv, h0⟩ | ⟨g, cap, cur, hv, hB, hh, hle, hm, hs, ht⟩
  · exact ⟨none, 0, by rw [hv, h0], .inl h0⟩
  · refine ⟨some ⟨g, 0, none⟩, cap, hv, .inr ⟨g, rfl, hB, lt_of_block hh, fun i hi => ⟨?_, freeRow hh i⟩⟩⟩
    rw [cellRow hh, ← Array.getElem?_toList]
    have h1 := congrArg (fun x : List Value => x[i]?) ht
    simp only [Nat.mul_one] at h1
    rw [List.getElem?_take_of_lt hi, nums_get cs i hi] at h1
    exact h1
/-- One more number. -/
theorem OwnI.put {w : World} {B : Nat} {T : TypeId} {v : Value} {cs : List Nat} {c : Nat} (h : w.ownsRow B T 1 v (cs.length + 1) (nums cs ++ [.int .i64 (c : Nat)])) : OwnI w B T v (cs ++ [c]) := by
  unfold OwnI
  rw [List.length_append, nums_app]
  exact h
theorem info_of {P : Program} {T : TypeId} {z : Value} {s b : Nat} (h : (P.info? T).map (fun i => (i.zero, i.size, i.bytes)) = some (some z, s, b)) : ∃ i, P.info? T = some i ∧ i.zero = some z ∧ i.size = s ∧ i.bytes = b := by
  obtain ⟨i, h1, h2⟩ := Option.map_eq_some_iff.1 h
  simp only [Prod.mk.injEq] at h2
  exact ⟨i, h1, h2.1, h2.2.1, h2.2.2⟩
/-- Two lists of as many members, that are the same each, are the same. -/
theorem same_of {a b : List Nat} (hl : a.length = b.length) (h : ∀ i, i < a.length → a.getD i 0 = b.getD i 0) : a = b := by
  apply List.ext_getElem hl
  intro i h1 h2
  have := h i h1
  simpa [List.getD, List.getElem?_eq_getElem h1, List.getElem?_eq_getElem h2] using this
end K
end Go.Proofs.YtmdibafofdghgaaGreatDoor
/- The document's own numbers and texts of arcs, walked. -/
namespace Go.Proofs.YtmdibafofdghgaaGreatDoor
open Go.ChangeShapes Go.WideShapes Go.ChangeAt Go.RowKit K O6
set_option linter.unusedVariables false

/-- The state of Number's loop: what is left, and the digits that stand. -/
def NuRel (w : World) (n g : Nat) (v0 v3 : Value) (wr : World) : Prop :=
  ∃ m tl, v0 = .int .i64 (m : Nat) ∧ m < 10 ^ (g + 1) ∧ m ≤ 9223372036854775807 ∧ v3 = .string (bs (b8 (48 + m % 10) :: tl)) ∧ dg (g + 1) m ++ tl = nm n ∧ g + tl.length ≤ 19 ∧ Below w.heap.size w wr
set_option maxRecDepth 100000 in
set_option maxHeartbeats 1000000 in
theorem qnumber_walk (n : Nat) (hn : n ≤ 9223372036854775807) (w : World) :
    Calls Tryz.prog 117 #[.int .i64 n] w fun e w' => e = .returned (.string (bs (nm n))) ∧ Below w.heap.size w w' := by
  have hcv := run_conv_one (P := Tryz.prog) 124 5 9 Tryz.underlying124 Tryz.underlying5 Tryz.underlying9
  have HR0 := Lib.hid (show n < 10 ^ (19 + 1) ∧ dg (19 + 1) n ++ [] = nm n from ⟨by omega, by rw [List.append_nil]; rfl⟩)
  go_enter Tryz.func117, Tryz.ntmps117
  go_wp2
  go_loopg [0, 3] 19 (fun g v0 v3 wr => NuRel w n g v0 v3 wr)
  case atStart =>
    exact ⟨n, [], rfl, HR0.out.1, hn, by simp, HR0.out.2, by simp, (Below.refl _ _).alloc (Nat.le_refl _) _⟩
  case round =>
    clear HR0
    obtain ⟨m, tl, rfl, hm, hm2, rfl, hd, htl, hb⟩ := hrel
    by_cases h10 : m < 10
    · have hfin : b8 (48 + m % 10) :: tl = nm n := by
        rw [dg_small _ m h10] at hd
        rw [← hd, Nat.mod_eq_of_lt h10]; rfl
      have HF := Lib.hid hfin
      clear hd hfin hm
      go_wp2
      go_ret
      rw [← HF.out]
      exact ⟨rfl, hb⟩
    · have h10' : 10 ≤ m := by omega
      rw [dg_big _ m h10'] at hd
      cases gk with
      | zero => simp at hm; omega
      | succ g =>
        have hm3 : m / 10 < 10 ^ (g + 1) := by rw [Nat.pow_succ] at hm; omega
        have HM := Lib.hid hm3
        have HD := Lib.hid hd
        have htl2 : tl.length ≤ 19 := by omega
        clear hd hm hm3 h10
        go_wp2
        go_roundg g
        case measure => omega
        case rel =>
          refine ⟨m / 10, b8 (48 + m % 10) :: tl, by simp, HM.out, by omega, ?_, ?_, by rw [List.length_cons]; omega, hb.alloc hb.size _⟩
          · congr 2
          · rw [← HD.out, List.append_assoc]; rfl

/-- A slice that reads as these numbers. -/
def RdZ (w : World) (ao : Option Addr) (n : Nat) (f : Nat → Int) : Prop :=
  n = 0 ∨ ∃ b off, ao = some ⟨b, off, none⟩ ∧ b < w.heap.size ∧ ∀ i, i < n → w.cell? ⟨b, off + i, none⟩ = some (.int .i64 (f i))
theorem RdZ.below {w w' : World} {ao : Option Addr} {n : Nat} {f : Nat → Int} (h : RdZ w ao n f) (k : Below w.heap.size w w') : RdZ w' ao n f := by
  rcases h with h0 | ⟨b, off, ha, hb, hc⟩
  · exact .inl h0
  · exact .inr ⟨b, off, ha, Nat.lt_of_lt_of_le hb k.size, fun i hi => (k.cell (p := ⟨b, off + i, none⟩) hb).trans (hc i hi)⟩
def inR (x : Int) : Bool := decide (0 ≤ x) && decide (x ≤ 4294967295)
def isZ (n : Nat) (f : Nat → Int) : Bool :=
  decide (2 ≤ n) && (decide (n ≤ 128) && ((List.range n).all (fun i => inR (f i)) && ((decide (f 0 < 2) && decide (f 1 ≤ 39)) || (f 0 == 2 && decide (f 1 ≤ 4294967215)))))
def IsRel (n : Nat) (f : Nat → Int) (w : World) (g : Nat) (v3 : Value) (wr : World) : Prop :=
  ∃ i, i + g = n ∧ v3 = .int .i64 (i : Nat) ∧ (∀ j, j < i → inR (f j) = true) ∧ wr = w
theorem isZ_no {n : Nat} {f : Nat → Int} {i : Nat} (hi : i < n) (h : inR (f i) = false) : isZ n f = false := by
  have : (List.range n).all (fun i => inR (f i)) = false := by
    rw [List.all_eq_false]
    exact ⟨i, List.mem_range.2 hi, by rw [h]; simp⟩
  unfold isZ; rw [this, Bool.false_and, Bool.and_false, Bool.and_false]
set_option maxRecDepth 100000 in
set_option maxHeartbeats 1000000 in
theorem qis_walk (ao : Option Addr) (n cap : Nat) (f : Nat → Int) (hn : n ≤ 140737488351232) (w : World) (h : RdZ w ao n f) :
    Calls Tryz.prog 95 #[.slice ao n cap] w fun e w' => e = .returned (.bool (isZ n f)) ∧ w = w' := by
  by_cases hl : n < 2 ∨ (2 ≤ n ∧ 128 < n)
  · have e : isZ n f = false := by
      unfold isZ
      rcases hl with h1 | ⟨_, h1⟩
      · rw [decide_eq_false (by omega), Bool.false_and]
      · rw [decide_eq_false (by omega : ¬ n ≤ 128), Bool.false_and, Bool.and_false]
    rw [e]
    clear e
    rcases hl with h1 | ⟨h0, h1⟩
    · have h1' : (n : Int) < 2 := by omega
      clear h h1
      go_enter Tryz.func95, Tryz.ntmps95
      go_wp2
      go_ret
      exact ⟨rfl, rfl⟩
    · have h1' : (128 : Int) < n := by omega
      have h0' : (2 : Int) ≤ n := by omega
      clear h h1 h0
      go_enter Tryz.func95, Tryz.ntmps95
      go_wp2
      go_ret
      exact ⟨rfl, rfl⟩
  · have hn2 : 2 ≤ n := by omega
    have hn3 : n ≤ 128 := by omega
    have hn2' : (2 : Int) ≤ n := by omega
    have hn3' : (n : Int) ≤ 128 := by omega
    rcases h with h | ⟨b, off, rfl, hbk, hc⟩
    · omega
    · have HC := Lib.hid hc
      clear hl hc
      go_enter Tryz.func95, Tryz.ntmps95
      go_wp2
      go_loopg [3] n (fun g v3 wr => IsRel n f w g v3 wr)
      case atStart => exact ⟨0, by omega, rfl, fun j hj => by omega, rfl⟩
      case round =>
        obtain ⟨i, hig, rfl, hall, rfl⟩ := hrel
        cases gk with
        | succ g =>
          have hin : i < n := by omega
          have hcell := HC.out i hin
          have HAL := Lib.hid hall
          have HNO := Lib.hid (fun h => @isZ_no n f i hin h)
          clear hall
          have hcs : (0 ≤ f i ∧ f i ≤ 4294967295) ∨ f i ≤ -1 ∨ (0 ≤ f i ∧ 4294967296 ≤ f i) := by omega
          generalize hx : f i = x at *
          have HX := Lib.hid hx
          clear hx
          rcases hcs with ⟨c0, c1⟩ | c0 | ⟨c0, c1⟩
          · go_wp2
            go_roundg g
            case measure => omega
            case rel =>
              refine ⟨i + 1, by omega, by simp, fun j hj => ?_, rfl⟩
              rcases Nat.lt_or_ge j i with h1 | h1
              · exact HAL.out j h1
              · obtain rfl : j = i := by omega
                rw [HX.out]; unfold inR; rw [decide_eq_true c0, decide_eq_true c1]; rfl
          · have HF := Lib.hid (show isZ n f = false from HNO.out (by unfold inR; rw [decide_eq_false (by omega), Bool.false_and]))
            go_wp2
            go_ret
            rw [HF.out]
            exact ⟨rfl, rfl⟩
          · have HF := Lib.hid (show isZ n f = false from HNO.out (by unfold inR; rw [decide_eq_false (by omega : ¬ x ≤ 4294967295), Bool.and_false]))
            go_wp2
            go_ret
            rw [HF.out]
            exact ⟨rfl, rfl⟩
        | zero =>
          obtain rfl : i = n := by omega
          have c0 := HC.out 0 (by omega)
          have c1 := HC.out 1 (by omega)
          rw [Nat.add_zero] at c0
          have hb0 := hall 0 (by omega)
          have hb1 := hall 1 (by omega)
          have e : isZ i f = ((decide (f 0 < 2) && decide (f 1 ≤ 39)) || (f 0 == 2 && decide (f 1 ≤ 4294967215))) := by
            have : (List.range i).all (fun i => inR (f i)) = true := by
              rw [List.all_eq_true]
              intro j hj
              exact hall j (List.mem_range.1 hj)
            unfold isZ; rw [this, decide_eq_true hn2, decide_eq_true hn3]; simp
          have HE := Lib.hid e
          unfold inR at hb0 hb1
          simp only [Bool.and_eq_true, decide_eq_true_eq] at hb0 hb1
          clear e hall hig HC
          generalize f 0 = x at *
          generalize f 1 = y at *
          obtain ⟨x0, x1⟩ := hb0
          obtain ⟨y0, y1⟩ := hb1
          have hcs : (x < 2 ∧ y ≤ 39) ∨ (x < 2 ∧ 39 < y ∧ (x == 2) = false) ∨ (2 ≤ x ∧ (x == 2) = true ∧ y ≤ 4294967215) ∨ (2 ≤ x ∧ (x == 2) = true ∧ 4294967215 < y) ∨ (2 ≤ x ∧ (x == 2) = false) := by
            by_cases a1 : x < 2
            · by_cases a2 : y ≤ 39
              · exact .inl ⟨a1, a2⟩
              · exact .inr (.inl ⟨a1, by omega, by rw [beq_eq_false_iff_ne]; omega⟩)
            · by_cases a3 : x = 2
              · by_cases a2 : y ≤ 4294967215
                · exact .inr (.inr (.inl ⟨by omega, by rw [beq_iff_eq]; exact a3, a2⟩))
                · exact .inr (.inr (.inr (.inl ⟨by omega, by rw [beq_iff_eq]; exact a3, by omega⟩)))
              · exact .inr (.inr (.inr (.inr ⟨by omega, by rw [beq_eq_false_iff_ne]; exact a3⟩)))
          rcases hcs with ⟨d0, d1⟩ | ⟨d0, d1, d2⟩ | ⟨d0, d1, d2⟩ | ⟨d0, d1, d2⟩ | ⟨d0, d1⟩
          · have HF := Lib.hid (show isZ i f = true by rw [HE.out, decide_eq_true d0, decide_eq_true d1]; rfl)
            go_wp2
            go_ret
            rw [HF.out]
            exact ⟨rfl, rfl⟩
          · have HF := Lib.hid (show isZ i f = decide (y ≤ 39) by rw [HE.out, decide_eq_true d0, d2]; simp)
            go_wp2
            go_ret
            rw [HF.out]
            exact ⟨rfl, rfl⟩
          · have HF := Lib.hid (show isZ i f = true by rw [HE.out, decide_eq_false (by omega : ¬ x < 2), d1, decide_eq_true d2]; rfl)
            go_wp2
            go_ret
            rw [HF.out]
            exact ⟨rfl, rfl⟩
          · have HF := Lib.hid (show isZ i f = decide (y ≤ 4294967215) by rw [HE.out, decide_eq_false (by omega : ¬ x < 2), d1]; simp)
            go_wp2
            go_ret
            rw [HF.out]
            exact ⟨rfl, rfl⟩
          · have HF := Lib.hid (show isZ i f = false by rw [HE.out, decide_eq_false (by omega : ¬ x < 2), d1]; rfl)
            go_wp2
            go_ret
            rw [HF.out]
            exact ⟨rfl, rfl⟩
/-- A list of numbers, read so. -/
def fz (cs : List Nat) (i : Nat) : Int := ((cs.getD i 0 : Nat) : Int)
theorem put_snoc (cs : List Nat) (i : Nat) (hi : i < cs.length) (h0 : 0 < i) : put (cs.take (i + 1)) = put (cs.take i) ++ [46] ++ nm (cs.getD i 0) := by
  have hne : cs.take i ≠ [] := by
    intro e
    have := congrArg List.length e
    rw [List.length_take, List.length_nil] at this
    omega
  rw [List.take_succ_eq_append_getElem hi, put_app _ _ [] hne]
  show _ ++ (46 :: nm cs[i]) = _
  simp [List.getD, List.getElem?_eq_getElem hi]
theorem put_first (cs : List Nat) (hi : 0 < cs.length) : put (cs.take 1) = nm (cs.getD 0 0) := by
  cases cs with
  | nil => simp at hi
  | cons a r => rfl
def PuRel (cs : List Nat) (w : World) (g : Nat) (v3 v4 : Value) (wr : World) : Prop :=
  ∃ i, i + g = cs.length ∧ v4 = .int .i64 (i : Nat) ∧ v3 = .string (bs (put (cs.take i))) ∧ (put (cs.take i)).length ≤ 11 * i ∧ Below w.heap.size w wr
set_option maxRecDepth 100000 in
set_option maxHeartbeats 1000000 in
theorem qputs_walk (cs : List Nat) (hcs : ∀ a ∈ cs, a ≤ 4294967295) (hn : cs.length ≤ 2000) (ao : Option Addr) (cap : Nat) (w : World) (h : RdZ w ao cs.length (fz cs)) :
    Calls Tryz.prog 96 #[.slice ao cs.length cap] w fun e w' => e = .returned (.string (bs (put cs))) ∧ Below w.heap.size w w' := by
  have HH := Lib.hid h
  have HCS := Lib.hid hcs
  clear h hcs
  go_enter Tryz.func96, Tryz.ntmps96
  go_wp2
  go_loopg [3, 4] cs.length (fun g v3 v4 wr => PuRel cs w g v3 v4 wr)
  case atStart => exact ⟨0, by omega, rfl, rfl, by simp [put], Below.refl _ _⟩
  case round =>
    obtain ⟨i, hig, rfl, rfl, hpl, hb⟩ := hrel
    cases gk with
    | zero =>
      obtain rfl : i = cs.length := by omega
      have HT := Lib.hid (show put (cs.take cs.length) = put cs by rw [List.take_length])
      clear hig
      go_wp2
      go_ret
      rw [HT.out]
      exact ⟨rfl, hb⟩
    | succ g =>
      have hil : i < cs.length := by omega
      rcases (HH.out).below hb with h0 | ⟨bk, off, rfl, _, hc⟩
      · omega
      · have hcell := hc i hil
        have hle : cs.getD i 0 ≤ 4294967295 := HCS.out _ (by
          rw [List.getD, List.getElem?_eq_getElem hil]; exact List.getElem_mem hil)
        have HN := Lib.hid (fun w1 => qnumber_walk (cs.getD i 0) (by omega) w1)
        have hnl := nm_len (cs.getD i 0) (by omega)
        unfold fz at hcell
        by_cases hi0 : 0 < i
        · have HS := Lib.hid (put_snoc cs i hil hi0)
          clear hc HH
          generalize cs.getD i 0 = c at *
          generalize nm c = X at *
          generalize put (cs.take i) = S at *
          have hlit : bs S ++ ({ data := #[46] } : ByteArray) = bs (S ++ [46]) := bs_append S [46]
          have hsl : (S ++ [46]).length ≤ 30000 := by rw [List.length_append]; simp; omega
          have hnew : (S ++ [46] ++ X).length ≤ 11 * (i + 1) := by rw [List.length_append, List.length_append]; simp; omega
          have hi0' : (0 : Int) < (i : Nat) := by omega
          go_wp2_with fail
          refine (HN.out _).mono ?_
          rintro e w1 ⟨rfl, d⟩
          have hb2 := hb.trans (d.mono hb.size)
          clear d hcell
          go_wp2
          go_roundg g
          case measure => omega
          case rel => exact ⟨i + 1, by omega, by simp, by rw [HS.out]; simp, by rw [HS.out]; exact hnew, hb2⟩
        · obtain rfl : i = 0 := by omega
          rw [Nat.add_zero] at hcell
          have HS := Lib.hid (put_first cs hil)
          have HE := Lib.hid (show put (cs.take 0) = [] from rfl)
          clear hc HH hi0
          generalize cs.getD 0 0 = c at *
          generalize nm c = X at *
          rw [HE.out]
          go_wp2_with fail
          refine (HN.out _).mono ?_
          rintro e w1 ⟨rfl, d⟩
          have hb2 := hb.trans (d.mono hb.size)
          clear d hcell
          go_wp2
          go_roundg g
          case measure => omega
          case rel => exact ⟨0 + 1, by omega, by simp, by first | rw [HS.out] | (rw [HS.out]; simp), by rw [HS.out]; omega, hb2⟩
end Go.Proofs.YtmdibafofdghgaaGreatDoor
