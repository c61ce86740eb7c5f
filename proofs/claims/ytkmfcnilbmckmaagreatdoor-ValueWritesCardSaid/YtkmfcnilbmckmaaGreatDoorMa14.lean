/- Texts on the program and on the document, joined: ValA, Row. -/
import Derived.Test.YtkmfcnilbmckmaaGreatDoorMa10
import Derived.Test.YtkmfcnilbmckmaaGreatDoorMa13
import Derived.Test.YtkmfcnilbmckmaaGreatDoorMa01
import Derived.Below
import Derived.Laws.OwnMore
import Derived.Laws.AppendOwn
import Derived.Deep.AppendLies
import Derived.Deep.Onto
/- The document's Number and Unsigned, walked. -/
namespace Go.Proofs.YtkmfcnilbmckmaaGreatDoor
open Go.ChangeShapes Go.WideShapes Go.ChangeAt Go.RowKit K P1 B5
set_option linter.unusedVariables false

theorem same_ways (s : List UInt8) : (same9 s = true ∧ ((((byt s 0 : Nat) : Int) == 0) = true ∧ byt s 1 < 128 ∨ (((byt s 0 : Nat) : Int) == 0) = false ∧ (((byt s 0 : Nat) : Int) == 255) = true ∧ 128 ≤ byt s 1)) ∨
    (same9 s = false ∧ ((((byt s 0 : Nat) : Int) == 0) = true ∧ (((byt s 0 : Nat) : Int) == 255) = false ∧ 128 ≤ byt s 1 ∨ (((byt s 0 : Nat) : Int) == 0) = false ∧ (((byt s 0 : Nat) : Int) == 255) = true ∧ byt s 1 < 128 ∨ (((byt s 0 : Nat) : Int) == 0) = false ∧ (((byt s 0 : Nat) : Int) == 255) = false)) := by
  have f0 : (((byt s 0 : Nat) : Int) == 0) = (byt s 0 == 0) := by rw [Bool.eq_iff_iff, beq_iff_eq, beq_iff_eq]; omega
  have f1 : (((byt s 0 : Nat) : Int) == 255) = (byt s 0 == 255) := by rw [Bool.eq_iff_iff, beq_iff_eq, beq_iff_eq]; omega
  rw [f0, f1]
  unfold same9
  by_cases c0 : byt s 0 = 0
  · rw [c0]
    by_cases c1 : byt s 1 < 128
    · left; simp [c1]
    · right; simp [c1]; omega
  · by_cases c2 : byt s 0 = 255
    · rw [c2]
      by_cases c1 : byt s 1 < 128
      · right; simp [c1]
      · left; simp; omega
    · right; simp [c0, c2]
theorem nu_no {l : List UInt8} (h : nOk l = false) : nuV l = 0 ∧ nuE l = 50 := by unfold nuV nuE; rw [h]; exact ⟨rfl, rfl⟩
theorem nu_yes {l : List UInt8} (h : nOk l = true) : nuV l = nv l ∧ nuE l = 0 := by unfold nuV nuE; rw [h]; exact ⟨rfl, rfl⟩
theorem uu_no {l : List UInt8} (h : uOk l = false) : uuV l = 0 ∧ uuE l = 50 := by unfold uuV uuE; rw [h]; exact ⟨rfl, rfl⟩
theorem uu_yes {l : List UInt8} (h : uOk l = true) : uuV l = uv l ∧ uuE l = 0 := by unfold uuV uuE; rw [h]; exact ⟨rfl, rfl⟩
theorem sh_ways {l : List UInt8} (h : isSh l = true) :
    (((l.length : Nat) : Int) ≤ 1 ∧ byt l 0 < 128) ∨ (((l.length : Nat) : Int) ≤ 1 ∧ 128 ≤ byt l 0) ∨
    ((1 : Int) < ((l.length : Nat) : Int) ∧ (((byt l 0 : Nat) : Int) == 0) = true ∧ (((byt l 0 : Nat) : Int) == 255) = false ∧ 128 ≤ byt l 1 ∧ byt l 0 < 128) ∨
    ((1 : Int) < ((l.length : Nat) : Int) ∧ (((byt l 0 : Nat) : Int) == 0) = false ∧ (((byt l 0 : Nat) : Int) == 255) = true ∧ byt l 1 < 128 ∧ 128 ≤ byt l 0) ∨
    ((1 : Int) < ((l.length : Nat) : Int) ∧ (((byt l 0 : Nat) : Int) == 0) = false ∧ (((byt l 0 : Nat) : Int) == 255) = false ∧ byt l 0 < 128) ∨
    ((1 : Int) < ((l.length : Nat) : Int) ∧ (((byt l 0 : Nat) : Int) == 0) = false ∧ (((byt l 0 : Nat) : Int) == 255) = false ∧ 128 ≤ byt l 0) := by
  have hl := (nOk_yes h).2
  by_cases h1 : l.length ≤ 1
  · by_cases hc : byt l 0 < 128
    · exact .inl ⟨by omega, hc⟩
    · exact .inr (.inl ⟨by omega, by omega⟩)
  · right; right
    rw [isSh_step (by omega)] at h
    have hs : same9 l = false := by simpa using h
    rcases same_ways l with ⟨a, _⟩ | ⟨_, c⟩
    · rw [hs] at a; cases a
    · rcases c with ⟨c0, c1, c2⟩ | ⟨c0, c1, c2⟩ | ⟨c0, c1⟩
      · exact .inl ⟨by omega, c0, c1, c2, by have := beq_iff_eq.1 c0; omega⟩
      · exact .inr (.inl ⟨by omega, c0, c1, c2, by have := beq_iff_eq.1 c1; omega⟩)
      · by_cases hc : byt l 0 < 128
        · exact .inr (.inr (.inl ⟨by omega, c0, c1, hc⟩))
        · exact .inr (.inr (.inr ⟨by omega, c0, c1, by omega⟩))
set_option maxRecDepth 100000 in
set_option maxHeartbeats 1000000 in
theorem qbnumber_walk (l : List UInt8) (hl : l.length ≤ 140737488351232) (w : World) :
    Calls Tryz.prog 22 #[.string (bs l)] w fun e w' => e = .returned (.tuple #[.int .i64 (nuV l), .int .i64 (nuE l : Nat)]) ∧ w = w' := by
  by_cases h1 : l.length < 1
  · obtain ⟨e1, e2⟩ := nu_no (l := l) (by unfold nOk; rw [decide_eq_false (by omega)]; rfl)
    rw [e1, e2]
    go_enter Tryz.func22, Tryz.ntmps22
    go_wp2
    go_ret2
    exact ⟨rfl, rfl⟩
  by_cases h8 : 8 < l.length
  · obtain ⟨e1, e2⟩ := nu_no (l := l) (by unfold nOk; rw [decide_eq_false (by omega : ¬ l.length ≤ 8)]; simp)
    rw [e1, e2]
    go_enter Tryz.func22, Tryz.ntmps22
    go_wp2
    go_ret2
    exact ⟨rfl, rfl⟩
  have h1' : 1 ≤ l.length := by omega
  have h8' : l.length ≤ 8 := by omega
  clear h1 h8
  cases hs : isSh l
  · obtain ⟨e1, e2⟩ := nu_no (nOk_no hs)
    rw [e1, e2]
    have h2 : 2 ≤ l.length := by
      rcases Nat.lt_or_ge l.length 2 with h | h
      · rw [isSh_one (by omega)] at hs; cases hs
      · exact h
    rw [isSh_step h2] at hs
    have hs9 : same9 l = true := by simpa using hs
    rcases same_ways l with ⟨_, c⟩ | ⟨a, _⟩
    · clear hs hs9 e1 e2
      rcases c with ⟨c0, c1⟩ | ⟨c0, c1, c2⟩
      all_goals
        go_enter Tryz.func22, Tryz.ntmps22
        go_wp2
        go_ret2
        exact ⟨rfl, rfl⟩
    · rw [hs9] at a; cases a
  · have hok : nOk l = true := by rw [(nOk_yes hs).1]; exact decide_eq_true h8'
    obtain ⟨e1, e2⟩ := nu_yes hok
    rw [e1, e2]
    have hn0 : nvi l 0 = if byt l 0 < 128 then 0 else -1 := by unfold nvi; simp [num]
    have HN0 := Lib.hid hn0
    have HN := Lib.hid (nvi_all l)
    have HR := Lib.hid (nv_range l h1' h8')
    have HT := Lib.hid (fun i h => nvi_step l i h)
    have hw := sh_ways hs
    clear hs hok e1 e2 hn0
    rcases hw with ⟨c0, cs⟩ | ⟨c0, cs⟩ | ⟨c0, c1, c2, c3, cs⟩ | ⟨c0, c1, c2, c3, cs⟩ | ⟨c0, c1, c2, cs⟩ | ⟨c0, c1, c2, cs⟩
    all_goals
      have hst : wrap64 (nvi l 0) = 0 ∧ byt l 0 < 128 ∨ wrap64 (nvi l 0) = -1 ∧ 128 ≤ byt l 0 := by
        rw [HN0.out, wrap64_eq]
        by_cases hneg : byt l 0 < 128
        · rw [if_pos hneg]; exact .inl ⟨by omega, hneg⟩
        · rw [if_neg hneg]; exact .inr ⟨by omega, by omega⟩
      rcases hst with ⟨hst, hcs⟩ | ⟨hst, hcs⟩
      all_goals first
        | (exfalso; omega)
        | skip
      have HST := Lib.hid hst
      clear hst hcs
      go_enter Tryz.func22, Tryz.ntmps22
      go_wp2
      go_loop [4, 5] (fun vn vi => NbRel l vn vi) (fun vn vi => l.length - (intOf vi).toNat)
      case atStart => exact ⟨0, _, Nat.zero_le _, rfl, HST.out.symm, rfl⟩
      case round =>
        obtain ⟨i, x, hi, rfl, hx, rfl⟩ := hrel
        by_cases hlt : i < l.length
        · have hnt := HT.out i hlt
          have hbb := byt_lt l i
          have hbo := bits_shl_orI (nvi l i) (byt l i) hbb
          rw [← hx, ← hnt] at hbo
          clear hx hnt cs
          have HB := Lib.hid hbo
          clear hbo
          go_wp2
          go_round
          case measure => simp [intOf]; omega
          case rel => exact ⟨i + 1, _, by omega, rfl, HB.out, by simp⟩
        · obtain rfl : i = l.length := by omega
          have hxx : x = nv l := by
            rw [hx, HN.out, wrap64_eq]
            have := HR.out
            omega
          have HX := Lib.hid hxx
          clear hx hlt hi hxx cs
          go_wp2
          go_ret2
          rw [HX.out]
          exact ⟨rfl, rfl⟩
def UqRel (l : List UInt8) (vn vi : Value) : Prop := ∃ i : Nat, 1 ≤ i ∧ i ≤ 9 ∧ vn = .int .u64 (uvi l i : Nat) ∧ vi = .int .i64 i
/-- The one of nine bytes, and all others. -/
theorem u_ways (l : List UInt8) :
    (l.length = 9 ∧ (((l.length : Nat) : Int) == 9) = true ∧ (((byt l 0 : Nat) : Int) == 0) = true ∧ 128 ≤ byt l 1 ∧ uOk l = true ∧ uv l = (uvi l 9 : Nat) ∧ uvi l 1 = 0) ∨
    (uOk l = (nOk l && decide (0 ≤ nv l)) ∧ (nOk l = true → uv l = nv l ∧ nv l ≤ 9223372036854775807) ∧
      ((((l.length : Nat) : Int) == 9) = false ∨ (l.length = 9 ∧ (((l.length : Nat) : Int) == 9) = true ∧ (((byt l 0 : Nat) : Int) == 0) = false) ∨ (l.length = 9 ∧ (((l.length : Nat) : Int) == 9) = true ∧ (((byt l 0 : Nat) : Int) == 0) = true ∧ byt l 1 < 128))) := by
  have hnr : nOk l = true → uv l = nv l ∧ nv l ≤ 9223372036854775807 := by
    intro h
    refine ⟨?_, (V7.nv_bounds h).2⟩
    unfold nOk at h
    simp only [Bool.and_eq_true, decide_eq_true_eq] at h
    unfold uv; rw [if_neg (by omega)]
  by_cases h9 : l.length = 9
  · have q9 : (((l.length : Nat) : Int) == 9) = true := by rw [beq_iff_eq]; omega
    by_cases h0 : byt l 0 = 0
    · have q0 : (((byt l 0 : Nat) : Int) == 0) = true := by rw [beq_iff_eq]; omega
      by_cases h1 : byt l 1 < 128
      · exact .inr ⟨by unfold uOk; rw [h9, h0, decide_eq_false (by omega : ¬ 128 ≤ byt l 1)]; simp, hnr, .inr (.inr ⟨h9, q9, q0, h1⟩)⟩
      · left
        have hu : uOk l = true := by unfold uOk; rw [h9, h0, decide_eq_true (by omega : 128 ≤ byt l 1)]; rfl
        have hsh : isSh l = true := by
          rw [isSh_step (by omega)]; unfold same9; rw [h0, decide_eq_false h1]; rfl
        have hv : uv l = (uvi l 9 : Nat) := by
          rcases uOk_ways hsh with ⟨a, _⟩ | ⟨a, _⟩ | ⟨a, _⟩ | ⟨_, _, _, _, e⟩
          · rw [hu] at a; cases a
          · rw [hu] at a; cases a
          · rw [hu] at a; cases a
          · rw [e, h9]
        refine ⟨h9, q9, q0, by omega, hu, hv, ?_⟩
        have := uvi_step l 0 (by omega)
        rw [this, h0]
        simp [uvi, num]
    · exact .inr ⟨by unfold uOk; rw [show (byt l 0 == 0) = false by rw [beq_eq_false_iff_ne]; exact h0]; simp, hnr, .inr (.inl ⟨h9, q9, by rw [beq_eq_false_iff_ne]; omega⟩)⟩
  · exact .inr ⟨by unfold uOk; rw [show (l.length == 9) = false by rw [beq_eq_false_iff_ne]; exact h9]; rfl, hnr, .inl (by rw [beq_eq_false_iff_ne]; omega)⟩
set_option maxRecDepth 100000 in
set_option maxHeartbeats 1000000 in
theorem qbunsigned_walk (l : List UInt8) (hl : l.length ≤ 140737488351232) (w : World) :
    Calls Tryz.prog 23 #[.string (bs l)] w fun e w' => e = .returned (.tuple #[.int .u64 (uuV l), .int .i64 (uuE l : Nat)]) ∧ w = w' := by
  rcases u_ways l with ⟨h9, q9, q0, q1, hu, hv, hz⟩ | ⟨hu, hnr, hq⟩
  · obtain ⟨e1, e2⟩ := uu_yes hu
    rw [e1, e2, hv]
    have HT := Lib.hid (fun i h => uvi_step l i h)
    have HZ := Lib.hid hz
    clear hu hv hz e1 e2
    go_enter Tryz.func23, Tryz.ntmps23
    go_wp2
    go_loop [4, 5] (fun vn vi => UqRel l vn vi) (fun vn vi => 9 - (intOf vi).toNat)
    case atStart => exact ⟨1, by omega, by omega, by rw [HZ.out]; rfl, rfl⟩
    case round =>
      obtain ⟨i, hi1, hi, rfl, rfl⟩ := hrel
      by_cases hlt : i < 9
      · have hnt := HT.out i (by omega)
        have hbb := byt_lt l i
        have hbo := bits_shl_orU (uvi l i) (byt l i) hbb
        rw [← hnt] at hbo
        generalize uvi l i = x at *
        clear hnt
        have HB := Lib.hid hbo
        clear hbo
        go_wp2
        go_round
        case measure => simp [intOf]; omega
        case rel => exact ⟨i + 1, by omega, by omega, by rw [← HB.out]; simp [IntKind.wrap, IntKind.signed, IntKind.bits], by simp⟩
      · obtain rfl : i = 9 := by omega
        clear hlt hi
        go_wp2
        go_ret2
        exact ⟨rfl, rfl⟩
  · have hN := qbnumber_walk l hl w
    have hw : (nuE l = 50 ∧ uuV l = 0 ∧ uuE l = 50) ∨ (nuE l = 0 ∧ nuV l < 0 ∧ uuV l = 0 ∧ uuE l = 50) ∨ (nuE l = 0 ∧ 0 ≤ nuV l ∧ IntKind.u64.wrap (nuV l) = nuV l ∧ uuV l = nuV l ∧ uuE l = 0) := by
      cases hn : nOk l
      · rw [hn] at hu
        obtain ⟨a1, a2⟩ := nu_no hn
        obtain ⟨b1, b2⟩ := uu_no hu
        exact .inl ⟨a2, b1, b2⟩
      · obtain ⟨a1, a2⟩ := nu_yes hn
        obtain ⟨v1, v2⟩ := hnr hn
        rw [hn, Bool.true_and] at hu
        by_cases h0 : 0 ≤ nv l
        · rw [decide_eq_true h0] at hu
          obtain ⟨b1, b2⟩ := uu_yes hu
          refine .inr (.inr ⟨a2, by omega, ?_, by omega, b2⟩)
          rw [a1]; simp [IntKind.wrap, IntKind.signed, IntKind.bits]; omega
        · rw [decide_eq_false h0] at hu
          obtain ⟨b1, b2⟩ := uu_no hu
          exact .inr (.inl ⟨a2, by omega, b1, b2⟩)
    clear hu hnr
    rcases hw with ⟨n1, u1, u2⟩ | ⟨n1, n2, u1, u2⟩ | ⟨n1, n2, n3, u1, u2⟩
    all_goals
      rw [u1, u2]
      rw [n1] at hN
      have HNN := Lib.hid hN
      clear hN n1 u1 u2
      try generalize nuV l = x at *
      rcases hq with q9 | ⟨_, q9, q0⟩ | ⟨_, q9, q0, q1⟩
      all_goals
        go_enter Tryz.func23, Tryz.ntmps23
        go_wp2_with fail
        refine HNN.out.mono ?_
        rintro e w1 ⟨rfl, rfl⟩
        go_wp2
        go_ret2
        exact ⟨rfl, rfl⟩
end Go.Proofs.YtkmfcnilbmckmaaGreatDoor
/- A list of numbers that a call made itself: its cells, and what keeps them. Of no program. -/
namespace Go.Proofs.YtkmfcnilbmckmaaGreatDoor
open Go.RowKit
namespace K

/-- Numbers as cells. -/
def nums (cs : List Nat) : List Value := cs.map fun c => Value.int .i64 (c : Nat)
theorem nums_len (cs : List Nat) : (nums cs).length = cs.length := by simp [nums]
theorem nums_app (a b : List Nat) : nums (a ++ b) = nums a ++ nums b := by simp [nums]
theorem nums_get (cs : List Nat) (i : Nat) (h : i < cs.length) : (nums cs)[i]? = some (.int .i64 ((cs.getD i 0 : Nat) : Int)) := by
  simp [nums, List.getElem?_eq_getElem h, List.getD]
/-- A slice that the call made itself, behind block B, of these numbers; T is the type of its elements. -/
def OwnI (w : World) (B : Nat) (T : TypeId) (v : Value) (cs : List Nat) : Prop := w.ownsRow B T 1 v cs.length (nums cs)
theorem OwnI.nil (w : World) (B : Nat) (T : TypeId) : OwnI w B T (.slice none 0 0) [] := World.ownsRow_nil w B T 1
theorem OwnI.below {w w' : World} {B : Nat} {T : TypeId} {v : Value} {cs : List Nat} (h : OwnI w B T v cs) (k : Below w.heap.size w w') : OwnI w' B T v cs := by
  refine ⟨h.1, ?_⟩
  rcases h.2 with hn | ⟨g, cap, cur, h1, h2, h3, h4⟩
  · exact .inl hn
  · exact .inr ⟨g, cap, cur, h1, h2, (k.block g (lt_of_block h3)).trans h3, h4⟩
theorem OwnI.drewN {w : World} {B : Nat} {T : TypeId} {v : Value} {cs : List Nat} (h : OwnI w B T v cs) (n : Nat) : OwnI (w.drewN n) B T v cs := h
theorem OwnI.mono {w : World} {B B' : Nat} {T : TypeId} {v : Value} {cs : List Nat} (h : OwnI w B T v cs) (hb : B' ≤ B) : OwnI w B' T v cs := World.ownsRow.mono h hb
/-- Its shape: where it lies, and its cells. -/
theorem OwnI.form {w : World} {B : Nat} {T : TypeId} {v : Value} {cs : List Nat} (h : OwnI w B T v cs) :
    ∃ ao cap, v = .slice ao cs.length cap ∧ (cs.length = 0 ∨ ∃ g, ao = some ⟨g, 0, none⟩ ∧ B ≤ g ∧ g < w.heap.size ∧ ∀ i, i < cs.length → w.cell? ⟨g, i, none⟩ = some (.int .i64 ((cs.getD i 0 : Nat) : Int)) ∧ w.frozen? ⟨g, i, none⟩ = false) := by
  rcases h.2 with ⟨hv, h0⟩ | ⟨g, cap, cur, hv, hB, hh, hle, hm, hs, ht⟩
  · exact ⟨none, 0, by rw [hv, h0], .inl h0⟩
  · refine ⟨some ⟨g, 0, none⟩, cap, hv, .inr ⟨g, rfl, hB, lt_of_block hh, fun i hi => ⟨?_, freeRow hh i⟩⟩⟩
    rw [cellRow hh, ← Array.getElem?_toList]
    have h1 := congrArg (fun x : List Value => x[i]?) ht
    simp only [Nat.mul_one] at h1
    rw [List.getElem?_take_of_lt hi, nums_get cs i hi] at h1
    exact h1
/-- One more number. -/
theorem OwnI.put {w : World} {B : Nat} {T : TypeId} {v : Value} {cs : List Nat} {c : Nat} (h : w.ownsRow B T 1 v (cs.length + 1) (nums cs ++ [.int .i64 (c : Nat)])) : OwnI w B T v (cs ++ [c]) := by
  unfold OwnI
  rw [List.length_append, nums_app]
  exact h
theorem info_of {P : Program} {T : TypeId} {z : Value} {s b : Nat} (h : (P.info? T).map (fun i => (i.zero, i.size, i.bytes)) = some (some z, s, b)) : ∃ i, P.info? T = some i ∧ i.zero = some z ∧ i.size = s ∧ i.bytes = b := by
  obtain ⟨i, h1, h2⟩ := Option.map_eq_some_iff.1 h
  simp only [Prod.mk.injEq] at h2
  exact ⟨i, h1, h2.1, h2.2.1, h2.2.2⟩
/-- Two lists of as many members, that are the same each, are the same. -/
theorem same_of {a b : List Nat} (hl : a.length = b.length) (h : ∀ i, i < a.length → a.getD i 0 = b.getD i 0) : a = b := by
  apply List.ext_getElem hl
  intro i h1 h2
  have := h i h1
  simpa [List.getD, List.getElem?_eq_getElem h1, List.getElem?_eq_getElem h2] using this
end K
end Go.Proofs.YtkmfcnilbmckmaaGreatDoor
