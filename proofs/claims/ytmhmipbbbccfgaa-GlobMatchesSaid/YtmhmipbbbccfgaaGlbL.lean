/- The document's Matches: its drawn region by the rule of Fut, an operation, a value. gen_globl.py writes it. -/
import Derived.Test.YtmhmipbbbccfgaaGlbM
import Derived.Test.YtmhmipbbbccfgaaFut
namespace Go.Proofs.Ytmhmipbbbccfgaa
open Go.ChangeShapes Go.WideShapes Go.ChangeAt Go.RowKit K G13
set_option linter.unusedVariables false

def MTL : List Sp := [⟨.move (.tmp 7), none, 54, []⟩,
  ⟨.move (.tmp 8), none, 55, []⟩,
  ⟨.move (.tmp 8), none, 56, []⟩,
  ⟨.binOp .gtr 3 (.tmp 56) (.const (.int .i64 0)) 3, none, 57, [2]⟩,
  ⟨.move (.tmp 57), none, 58, [3]⟩,
  ⟨.move (.tmp 5), some (4, true), 59, [4]⟩,
  ⟨.move (.tmp 8), some (4, true), 60, [4]⟩,
  ⟨.binOp .sub 3 (.tmp 60) (.const (.int .i64 1)) 3, some (4, true), 61, [4, 6]⟩,
  ⟨.indexAddr 84 (.tmp 59) (.tmp 61), some (4, true), 62, [4, 5, 7]⟩,
  ⟨.load 4 (.tmp 62), some (4, true), 63, [4, 8]⟩,
  ⟨.pick (.tmp 58) (.tmp 63) (.const (.bool false)), none, 64, [4, 9]⟩,
  ⟨.move (.tmp 64), none, 65, [10]⟩,
  ⟨.move (.tmp 0), some (11, true), 66, [11]⟩,
  ⟨.move (.tmp 6), some (11, true), 67, [11]⟩,
  ⟨.move (.tmp 1), some (11, true), 68, [11]⟩,
  ⟨.move (.tmp 8), some (11, true), 69, [11]⟩,
  ⟨.binOp .sub 3 (.tmp 69) (.const (.int .i64 1)) 3, some (11, true), 70, [11, 15]⟩,
  ⟨.index 9 (.tmp 68) (.tmp 70), some (11, true), 71, [11, 14, 16]⟩,
  ⟨.indexAddr 27 (.tmp 66) (.tmp 67), some (11, true), 72, [11, 12, 13]⟩,
  ⟨.fieldAddr 57 (.tmp 72) 2, some (11, true), 73, [11, 18]⟩,
  ⟨.indexAddr 55 (.tmp 73) (.tmp 71), some (11, true), 74, [11, 19, 17]⟩,
  ⟨.load 4 (.tmp 74), some (11, true), 75, [11, 20]⟩,
  ⟨.pick (.tmp 65) (.tmp 75) (.const (.bool false)), none, 76, [11, 21]⟩,
  ⟨.indexAddr 84 (.tmp 54) (.tmp 55), none, 77, [0, 1]⟩]
def MTV (nb rb g i k len cap : Nat) (s : List UInt8) (e0 y z : Bool) : List Value := [.slice (some ⟨nb, 0, none⟩) (s.length + 1) (s.length + 1),
  .int .i64 (i : Nat),
  .int .i64 (i : Nat),
  .bool e0,
  .bool e0,
  .slice (some ⟨rb, 0, none⟩) (s.length + 1) (s.length + 1),
  .int .i64 (i : Nat),
  .int .i64 ((i : Nat) - 1),
  .pointer (some ⟨rb, i - 1, none⟩),
  .bool y,
  .bool (e0 && y),
  .bool (e0 && y),
  .slice (some ⟨g, 0, none⟩) len cap,
  .int .i64 (k : Nat),
  .string (bs s),
  .int .i64 (i : Nat),
  .int .i64 ((i : Nat) - 1),
  .int .u8 (byt s (i - 1) : Nat),
  .pointer (some ⟨g, k * 258, none⟩),
  .pointer (some ⟨g, k * 258 + 2, none⟩),
  .pointer (some ⟨g, k * 258 + 2 + byt s (i - 1), none⟩),
  .bool z,
  .bool ((e0 && y) && z),
  .pointer (some ⟨nb, i, none⟩)]
def MTO (e0 y : Bool) : List Bool := [true, true, true, true, true, e0, e0, e0, e0, e0, true, true, (e0 && y), (e0 && y), (e0 && y), (e0 && y), (e0 && y), (e0 && y), (e0 && y), (e0 && y), (e0 && y), (e0 && y), true, true]
def MTK : List Nat := [54, 55, 56, 57, 58, 59, 60, 61, 62, 63, 64, 65, 66, 67, 68, 69, 70, 71, 72, 73, 74, 75, 76, 77]
theorem mtk_lt : ∀ r ∈ MTK, r < 84 := by decide
theorem mt_on (nb rb g i k len cap : Nat) (s : List UInt8) (e0 y z : Bool) : OnL (fun j => (MTV nb rb g i k len cap s e0 y z).getD j undef) (fun j => (MTO e0 y).getD j true) 0 MTL :=
  ⟨rfl, ⟨rfl, ⟨rfl, ⟨rfl, ⟨rfl, ⟨.inl ⟨rfl, by decide, _, rfl, rfl⟩, ⟨.inl ⟨rfl, by decide, _, rfl, rfl⟩, ⟨.inl ⟨rfl, by decide, _, rfl, rfl⟩, ⟨.inl ⟨rfl, by decide, _, rfl, rfl⟩, ⟨.inl ⟨rfl, by decide, _, rfl, rfl⟩, ⟨rfl, ⟨rfl, ⟨.inl ⟨rfl, by decide, _, rfl, rfl⟩, ⟨.inl ⟨rfl, by decide, _, rfl, rfl⟩, ⟨.inl ⟨rfl, by decide, _, rfl, rfl⟩, ⟨.inl ⟨rfl, by decide, _, rfl, rfl⟩, ⟨.inl ⟨rfl, by decide, _, rfl, rfl⟩, ⟨.inl ⟨rfl, by decide, _, rfl, rfl⟩, ⟨.inl ⟨rfl, by decide, _, rfl, rfl⟩, ⟨.inl ⟨rfl, by decide, _, rfl, rfl⟩, ⟨.inl ⟨rfl, by decide, _, rfl, rfl⟩, ⟨.inl ⟨rfl, by decide, _, rfl, rfl⟩, ⟨rfl, ⟨rfl, trivial⟩⟩⟩⟩⟩⟩⟩⟩⟩⟩⟩⟩⟩⟩⟩⟩⟩⟩⟩⟩⟩⟩⟩⟩
set_option maxRecDepth 100000 in
set_option maxHeartbeats 1000000 in
theorem mt_obl (nb rb g i k len cap : Nat) (s : List UInt8) (e0 y z : Bool) (W : World) (Q : Exit → Act → World → Prop) (old : Nat → Value)
    (o7 : old 7 = .slice (some ⟨nb, 0, none⟩) (s.length + 1) (s.length + 1)) (o8 : old 8 = .int .i64 (i : Nat)) (o5 : old 5 = .slice (some ⟨rb, 0, none⟩) (s.length + 1) (s.length + 1)) (o0 : old 0 = .slice (some ⟨g, 0, none⟩) len cap) (o6 : old 6 = .int .i64 (k : Nat)) (o1 : old 1 = .string (bs s))
    (he : decide ((0 : Int) < ((i : Nat) : Int)) = e0) (hi : i < s.length + 1) (hk : k < len) (hs : s.length ≤ 10000)
    (cy : 0 < i → W.cell? ⟨rb, i - 1, none⟩ = some (.bool y)) (cz : 0 < i → W.cell? ⟨g, k * 258 + 2 + byt s (i - 1), none⟩ = some (.bool z)) :
    Obl Try.prog Q (fun x => x = W) MTL (fun j => (MTV nb rb g i k len cap s e0 y z).getD j undef) (fun j => (MTO e0 y).getD j true) old MTK 0 MTL := by
  have hbl := byt_lt s (i - 1)
  refine And.intro ?_ (And.intro ?_ (And.intro ?_ (And.intro ?_ (And.intro ?_ (And.intro ?_ (And.intro ?_ (And.intro ?_ (And.intro ?_ (And.intro ?_ (And.intro ?_ (And.intro ?_ (And.intro ?_ (And.intro ?_ (And.intro ?_ (And.intro ?_ (And.intro ?_ (And.intro ?_ (And.intro ?_ (And.intro ?_ (And.intro ?_ (And.intro ?_ (And.intro ?_ (And.intro ?_ (trivial))))))))))))))))))))))))
  · intro hon o a x ho hJ hold hp
    subst hJ
    exact fun_move (.inl ho) ((eval_slot _ _).trans ((hold 7 (by decide)).trans o7)) rfl
  · intro hon o a x ho hJ hold hp
    subst hJ
    exact fun_move (.inl ho) ((eval_slot _ _).trans ((hold 8 (by decide)).trans o8)) rfl
  · intro hon o a x ho hJ hold hp
    subst hJ
    exact fun_move (.inl ho) ((eval_slot _ _).trans ((hold 8 (by decide)).trans o8)) rfl
  · intro hon o a x ho hJ hold hp
    subst hJ
    have s0 : slot a 56 = .int .i64 (i : Nat) := hp 2 (by decide) rfl
    refine op_run (v := .bool e0) (w' := x) ?_ ⟨rfl, rfl⟩
    simp only [execOp, ho, eval_slot, s0]
    go_simp
    rw [← he, decide_eq_decide]
    omega
  · intro hon o a x ho hJ hold hp
    subst hJ
    have s0 : slot a 57 = .bool e0 := hp 3 (by decide) rfl
    exact fun_move (.inl ho) ((eval_slot _ _).trans s0) rfl
  · intro hon o a x ho hJ hold hp
    have hpos : 0 < i := by
      have h1 : e0 = true := hon
      rw [← he, decide_eq_true_eq] at h1
      omega
    have f1 : (0 : Int) ≤ ((i : Nat) : Int) - 1 := by omega
    have f2 : ((i : Nat) : Int) - 1 < ((s.length : Nat) : Int) + 1 := by omega
    have f3 : ((i : Nat) : Int) - 1 < ((s.length : Nat) : Int) := by omega
    have f4 : (((i : Nat) : Int) - 1).toNat = i - 1 := by omega
    have f5 : i - 1 < s.length := by omega
    subst hJ
    exact fun_move (.inl ho) ((eval_slot _ _).trans ((hold 5 (by decide)).trans o5)) rfl
  · intro hon o a x ho hJ hold hp
    have hpos : 0 < i := by
      have h1 : e0 = true := hon
      rw [← he, decide_eq_true_eq] at h1
      omega
    have f1 : (0 : Int) ≤ ((i : Nat) : Int) - 1 := by omega
    have f2 : ((i : Nat) : Int) - 1 < ((s.length : Nat) : Int) + 1 := by omega
    have f3 : ((i : Nat) : Int) - 1 < ((s.length : Nat) : Int) := by omega
    have f4 : (((i : Nat) : Int) - 1).toNat = i - 1 := by omega
    have f5 : i - 1 < s.length := by omega
    subst hJ
    exact fun_move (.inl ho) ((eval_slot _ _).trans ((hold 8 (by decide)).trans o8)) rfl
  · intro hon o a x ho hJ hold hp
    have hpos : 0 < i := by
      have h1 : e0 = true := hon
      rw [← he, decide_eq_true_eq] at h1
      omega
    have f1 : (0 : Int) ≤ ((i : Nat) : Int) - 1 := by omega
    have f2 : ((i : Nat) : Int) - 1 < ((s.length : Nat) : Int) + 1 := by omega
    have f3 : ((i : Nat) : Int) - 1 < ((s.length : Nat) : Int) := by omega
    have f4 : (((i : Nat) : Int) - 1).toNat = i - 1 := by omega
    have f5 : i - 1 < s.length := by omega
    subst hJ
    have s0 : slot a 60 = .int .i64 (i : Nat) := hp 6 (by decide) hon
    refine op_run (v := .int .i64 ((i : Nat) - 1)) (w' := x) ?_ ⟨rfl, rfl⟩
    simp only [execOp, ho, eval_slot, s0]
    go_simp
    rw [IntKind.wrap_i64]; omega
  · intro hon o a x ho hJ hold hp
    have hpos : 0 < i := by
      have h1 : e0 = true := hon
      rw [← he, decide_eq_true_eq] at h1
      omega
    have f1 : (0 : Int) ≤ ((i : Nat) : Int) - 1 := by omega
    have f2 : ((i : Nat) : Int) - 1 < ((s.length : Nat) : Int) + 1 := by omega
    have f3 : ((i : Nat) : Int) - 1 < ((s.length : Nat) : Int) := by omega
    have f4 : (((i : Nat) : Int) - 1).toNat = i - 1 := by omega
    have f5 : i - 1 < s.length := by omega
    subst hJ
    have s0 : slot a 59 = .slice (some ⟨rb, 0, none⟩) (s.length + 1) (s.length + 1) := hp 5 (by decide) hon
    have s1 : slot a 61 = .int .i64 ((i : Nat) - 1) := hp 7 (by decide) hon
    refine op_run (v := .pointer (some ⟨rb, i - 1, none⟩)) (w' := x) ?_ ⟨rfl, rfl⟩
    simp only [execOp, ho, eval_slot, s0, s1]
    go_simp
    intro hbad
    omega
  · intro hon o a x ho hJ hold hp
    have hpos : 0 < i := by
      have h1 : e0 = true := hon
      rw [← he, decide_eq_true_eq] at h1
      omega
    have f1 : (0 : Int) ≤ ((i : Nat) : Int) - 1 := by omega
    have f2 : ((i : Nat) : Int) - 1 < ((s.length : Nat) : Int) + 1 := by omega
    have f3 : ((i : Nat) : Int) - 1 < ((s.length : Nat) : Int) := by omega
    have f4 : (((i : Nat) : Int) - 1).toNat = i - 1 := by omega
    have f5 : i - 1 < s.length := by omega
    subst hJ
    have s0 : slot a 62 = .pointer (some ⟨rb, i - 1, none⟩) := hp 8 (by decide) hon
    have c0 := cy hpos
    refine op_run (v := .bool y) (w' := x) ?_ ⟨rfl, rfl⟩
    simp only [execOp, ho, eval_slot, s0]
    go_simp
  · intro hon o a x ho hJ hold hp
    subst hJ
    have s0 : slot a 58 = .bool e0 := hp 4 (by decide) rfl
    exact fun_pick ho s0 (fun hb => hp 9 (by decide) hb) rfl
  · intro hon o a x ho hJ hold hp
    subst hJ
    have s0 : slot a 64 = .bool (e0 && y) := hp 10 (by decide) rfl
    exact fun_move (.inl ho) ((eval_slot _ _).trans s0) rfl
  · intro hon o a x ho hJ hold hp
    have hpos : 0 < i := by
      have h1 : (e0 && y) = true := hon
      rw [Bool.and_eq_true] at h1
      have h1 := h1.1
      rw [← he, decide_eq_true_eq] at h1
      omega
    have f1 : (0 : Int) ≤ ((i : Nat) : Int) - 1 := by omega
    have f2 : ((i : Nat) : Int) - 1 < ((s.length : Nat) : Int) + 1 := by omega
    have f3 : ((i : Nat) : Int) - 1 < ((s.length : Nat) : Int) := by omega
    have f4 : (((i : Nat) : Int) - 1).toNat = i - 1 := by omega
    have f5 : i - 1 < s.length := by omega
    subst hJ
    exact fun_move (.inl ho) ((eval_slot _ _).trans ((hold 0 (by decide)).trans o0)) rfl
  · intro hon o a x ho hJ hold hp
    have hpos : 0 < i := by
      have h1 : (e0 && y) = true := hon
      rw [Bool.and_eq_true] at h1
      have h1 := h1.1
      rw [← he, decide_eq_true_eq] at h1
      omega
    have f1 : (0 : Int) ≤ ((i : Nat) : Int) - 1 := by omega
    have f2 : ((i : Nat) : Int) - 1 < ((s.length : Nat) : Int) + 1 := by omega
    have f3 : ((i : Nat) : Int) - 1 < ((s.length : Nat) : Int) := by omega
    have f4 : (((i : Nat) : Int) - 1).toNat = i - 1 := by omega
    have f5 : i - 1 < s.length := by omega
    subst hJ
    exact fun_move (.inl ho) ((eval_slot _ _).trans ((hold 6 (by decide)).trans o6)) rfl
  · intro hon o a x ho hJ hold hp
    have hpos : 0 < i := by
      have h1 : (e0 && y) = true := hon
      rw [Bool.and_eq_true] at h1
      have h1 := h1.1
      rw [← he, decide_eq_true_eq] at h1
      omega
    have f1 : (0 : Int) ≤ ((i : Nat) : Int) - 1 := by omega
    have f2 : ((i : Nat) : Int) - 1 < ((s.length : Nat) : Int) + 1 := by omega
    have f3 : ((i : Nat) : Int) - 1 < ((s.length : Nat) : Int) := by omega
    have f4 : (((i : Nat) : Int) - 1).toNat = i - 1 := by omega
    have f5 : i - 1 < s.length := by omega
    subst hJ
    exact fun_move (.inl ho) ((eval_slot _ _).trans ((hold 1 (by decide)).trans o1)) rfl
  · intro hon o a x ho hJ hold hp
    have hpos : 0 < i := by
      have h1 : (e0 && y) = true := hon
      rw [Bool.and_eq_true] at h1
      have h1 := h1.1
      rw [← he, decide_eq_true_eq] at h1
      omega
    have f1 : (0 : Int) ≤ ((i : Nat) : Int) - 1 := by omega
    have f2 : ((i : Nat) : Int) - 1 < ((s.length : Nat) : Int) + 1 := by omega
    have f3 : ((i : Nat) : Int) - 1 < ((s.length : Nat) : Int) := by omega
    have f4 : (((i : Nat) : Int) - 1).toNat = i - 1 := by omega
    have f5 : i - 1 < s.length := by omega
    subst hJ
    exact fun_move (.inl ho) ((eval_slot _ _).trans ((hold 8 (by decide)).trans o8)) rfl
  · intro hon o a x ho hJ hold hp
    have hpos : 0 < i := by
      have h1 : (e0 && y) = true := hon
      rw [Bool.and_eq_true] at h1
      have h1 := h1.1
      rw [← he, decide_eq_true_eq] at h1
      omega
    have f1 : (0 : Int) ≤ ((i : Nat) : Int) - 1 := by omega
    have f2 : ((i : Nat) : Int) - 1 < ((s.length : Nat) : Int) + 1 := by omega
    have f3 : ((i : Nat) : Int) - 1 < ((s.length : Nat) : Int) := by omega
    have f4 : (((i : Nat) : Int) - 1).toNat = i - 1 := by omega
    have f5 : i - 1 < s.length := by omega
    subst hJ
    have s0 : slot a 69 = .int .i64 (i : Nat) := hp 15 (by decide) hon
    refine op_run (v := .int .i64 ((i : Nat) - 1)) (w' := x) ?_ ⟨rfl, rfl⟩
    simp only [execOp, ho, eval_slot, s0]
    go_simp
    rw [IntKind.wrap_i64]; omega
  · intro hon o a x ho hJ hold hp
    have hpos : 0 < i := by
      have h1 : (e0 && y) = true := hon
      rw [Bool.and_eq_true] at h1
      have h1 := h1.1
      rw [← he, decide_eq_true_eq] at h1
      omega
    have f1 : (0 : Int) ≤ ((i : Nat) : Int) - 1 := by omega
    have f2 : ((i : Nat) : Int) - 1 < ((s.length : Nat) : Int) + 1 := by omega
    have f3 : ((i : Nat) : Int) - 1 < ((s.length : Nat) : Int) := by omega
    have f4 : (((i : Nat) : Int) - 1).toNat = i - 1 := by omega
    have f5 : i - 1 < s.length := by omega
    subst hJ
    have s0 : slot a 68 = .string (bs s) := hp 14 (by decide) hon
    have s1 : slot a 70 = .int .i64 ((i : Nat) - 1) := hp 16 (by decide) hon
    refine op_run (v := .int .u8 (byt s (i - 1) : Nat)) (w' := x) ?_ ⟨rfl, rfl⟩
    simp only [execOp, ho, eval_slot, s0, s1]
    go_simp
    intro hbad
    omega
  · intro hon o a x ho hJ hold hp
    have hpos : 0 < i := by
      have h1 : (e0 && y) = true := hon
      rw [Bool.and_eq_true] at h1
      have h1 := h1.1
      rw [← he, decide_eq_true_eq] at h1
      omega
    have f1 : (0 : Int) ≤ ((i : Nat) : Int) - 1 := by omega
    have f2 : ((i : Nat) : Int) - 1 < ((s.length : Nat) : Int) + 1 := by omega
    have f3 : ((i : Nat) : Int) - 1 < ((s.length : Nat) : Int) := by omega
    have f4 : (((i : Nat) : Int) - 1).toNat = i - 1 := by omega
    have f5 : i - 1 < s.length := by omega
    subst hJ
    have s0 : slot a 66 = .slice (some ⟨g, 0, none⟩) len cap := hp 12 (by decide) hon
    have s1 : slot a 67 = .int .i64 (k : Nat) := hp 13 (by decide) hon
    refine op_run (v := .pointer (some ⟨g, k * 258, none⟩)) (w' := x) ?_ ⟨rfl, rfl⟩
    simp only [execOp, ho, eval_slot, s0, s1]
    go_simp
  · intro hon o a x ho hJ hold hp
    have hpos : 0 < i := by
      have h1 : (e0 && y) = true := hon
      rw [Bool.and_eq_true] at h1
      have h1 := h1.1
      rw [← he, decide_eq_true_eq] at h1
      omega
    have f1 : (0 : Int) ≤ ((i : Nat) : Int) - 1 := by omega
    have f2 : ((i : Nat) : Int) - 1 < ((s.length : Nat) : Int) + 1 := by omega
    have f3 : ((i : Nat) : Int) - 1 < ((s.length : Nat) : Int) := by omega
    have f4 : (((i : Nat) : Int) - 1).toNat = i - 1 := by omega
    have f5 : i - 1 < s.length := by omega
    subst hJ
    have s0 : slot a 72 = .pointer (some ⟨g, k * 258, none⟩) := hp 18 (by decide) hon
    refine op_run (v := .pointer (some ⟨g, k * 258 + 2, none⟩)) (w' := x) ?_ ⟨rfl, rfl⟩
    simp only [execOp, ho, eval_slot, s0]
    go_simp
  · intro hon o a x ho hJ hold hp
    have hpos : 0 < i := by
      have h1 : (e0 && y) = true := hon
      rw [Bool.and_eq_true] at h1
      have h1 := h1.1
      rw [← he, decide_eq_true_eq] at h1
      omega
    have f1 : (0 : Int) ≤ ((i : Nat) : Int) - 1 := by omega
    have f2 : ((i : Nat) : Int) - 1 < ((s.length : Nat) : Int) + 1 := by omega
    have f3 : ((i : Nat) : Int) - 1 < ((s.length : Nat) : Int) := by omega
    have f4 : (((i : Nat) : Int) - 1).toNat = i - 1 := by omega
    have f5 : i - 1 < s.length := by omega
    subst hJ
    have s0 : slot a 73 = .pointer (some ⟨g, k * 258 + 2, none⟩) := hp 19 (by decide) hon
    have s1 : slot a 71 = .int .u8 (byt s (i - 1) : Nat) := hp 17 (by decide) hon
    refine op_run (v := .pointer (some ⟨g, k * 258 + 2 + byt s (i - 1), none⟩)) (w' := x) ?_ ⟨rfl, rfl⟩
    simp only [execOp, ho, eval_slot, s0, s1]
    go_simp
    intro hbad
    omega
  · intro hon o a x ho hJ hold hp
    have hpos : 0 < i := by
      have h1 : (e0 && y) = true := hon
      rw [Bool.and_eq_true] at h1
      have h1 := h1.1
      rw [← he, decide_eq_true_eq] at h1
      omega
    have f1 : (0 : Int) ≤ ((i : Nat) : Int) - 1 := by omega
    have f2 : ((i : Nat) : Int) - 1 < ((s.length : Nat) : Int) + 1 := by omega
    have f3 : ((i : Nat) : Int) - 1 < ((s.length : Nat) : Int) := by omega
    have f4 : (((i : Nat) : Int) - 1).toNat = i - 1 := by omega
    have f5 : i - 1 < s.length := by omega
    subst hJ
    have s0 : slot a 74 = .pointer (some ⟨g, k * 258 + 2 + byt s (i - 1), none⟩) := hp 20 (by decide) hon
    have c0 := cz hpos
    refine op_run (v := .bool z) (w' := x) ?_ ⟨rfl, rfl⟩
    simp only [execOp, ho, eval_slot, s0]
    go_simp
  · intro hon o a x ho hJ hold hp
    subst hJ
    have s0 : slot a 65 = .bool (e0 && y) := hp 11 (by decide) rfl
    exact fun_pick ho s0 (fun hb => hp 21 (by decide) hb) rfl
  · intro hon o a x ho hJ hold hp
    subst hJ
    have s0 : slot a 54 = .slice (some ⟨nb, 0, none⟩) (s.length + 1) (s.length + 1) := hp 0 (by decide) rfl
    have s1 : slot a 55 = .int .i64 (i : Nat) := hp 1 (by decide) rfl
    refine op_run (v := .pointer (some ⟨nb, i, none⟩)) (w' := x) ?_ ⟨rfl, rfl⟩
    simp only [execOp, ho, eval_slot, s0, s1]
    go_simp
    intro hbad
    omega
end Go.Proofs.Ytmhmipbbbccfgaa
