/- LexBlanks' drawn regions, an operation, a value. gen_lexw.py writes it. -/
import Derived.Test.YtkobjbmjefkmgaaDoorLexV
import Derived.Test.YtkobjbmjefkmgaaDoorFut
namespace Go.Proofs.YtkobjbmjefkmgaaDoor
open Go.ChangeShapes Go.WideShapes Go.ChangeAt Go.RowKit K L14
set_option linter.unusedVariables false

def LKAL : List Sp := [
  ⟨.move (.tmp 7), none, 51, []⟩,
  ⟨.move (.tmp 10), none, 52, []⟩,
  ⟨.move (.tmp 5), none, 53, []⟩,
  ⟨.move (.tmp 11), none, 54, []⟩,
  ⟨.indexAddr 42 (.tmp 53) (.tmp 54), none, 55, [2, 3]⟩,
  ⟨.load 9 (.tmp 55), none, 56, [4]⟩,
  ⟨.binOp .add 9 (.tmp 52) (.tmp 56) 9, none, 57, [1, 5]⟩,
  ⟨.binOp .add 9 (.tmp 57) (.const (.string { data := #[59] })) 9, none, 58, [6]⟩,
  ⟨.move (.tmp 5), none, 59, []⟩,
  ⟨.move (.tmp 11), none, 60, []⟩,
  ⟨.indexAddr 42 (.tmp 59) (.tmp 60), none, 61, [8, 9]⟩,
  ⟨.load 9 (.tmp 61), none, 62, [10]⟩,
  ⟨.binOp .add 9 (.tmp 58) (.tmp 62) 9, none, 63, [7, 11]⟩,
  ⟨.binOp .add 9 (.tmp 51) (.tmp 63) 9, none, 64, [0, 12]⟩]
def LKAV (g kk : Nat) (B q Z : List UInt8) : List Value := [
  .string (bs B),
  .string (bs q),
  .slice (some ⟨g, 0, none⟩) 5 5,
  .int .i64 (kk : Nat),
  .pointer (some ⟨g, kk, none⟩),
  .string (bs Z),
  .string (bs (q ++ Z)),
  .string (bs (q ++ Z ++ [59])),
  .slice (some ⟨g, 0, none⟩) 5 5,
  .int .i64 (kk : Nat),
  .pointer (some ⟨g, kk, none⟩),
  .string (bs Z),
  .string (bs (q ++ Z ++ [59] ++ Z)),
  .string (bs (B ++ (q ++ Z ++ [59] ++ Z)))]
def LKAO (g kk : Nat) (B q Z : List UInt8) : List Bool := [true, true, true, true, true, true, true, true, true, true, true, true, true, true]
def LKAK : List Nat := [51, 52, 53, 54, 55, 56, 57, 58, 59, 60, 61, 62, 63, 64]
theorem lkak_lt : ∀ r ∈ LKAK, r < 172 := by decide
theorem lka_on (g kk : Nat) (B q Z : List UInt8) : OnL (fun zz => (LKAV g kk B q Z).getD zz undef) (fun zz => (LKAO g kk B q Z).getD zz true) 0 LKAL :=
  ⟨rfl, ⟨rfl, ⟨rfl, ⟨rfl, ⟨rfl, ⟨rfl, ⟨rfl, ⟨rfl, ⟨rfl, ⟨rfl, ⟨rfl, ⟨rfl, ⟨rfl, ⟨rfl, trivial⟩⟩⟩⟩⟩⟩⟩⟩⟩⟩⟩⟩⟩⟩
set_option maxRecDepth 100000 in
set_option maxHeartbeats 1000000 in
theorem lka_obl (g kk : Nat) (B q Z : List UInt8) (W : World) (hk : kk < 5) (hz : W.cell? ⟨g, kk, none⟩ = some (.string (bs Z))) (hq : q.length ≤ 1000) (hZ : Z.length ≤ 1000) (hB : B.length ≤ 1000000) (Q : Exit → Act → World → Prop) (old : Nat → Value) (o5 : old 5 = .slice (some ⟨g, 0, none⟩) 5 5) (o7 : old 7 = .string (bs B)) (o10 : old 10 = .string (bs q)) (o11 : old 11 = .int .i64 (kk : Nat)) :
    Obl Tryd.prog Q (fun x => x = W) LKAL (fun zz => (LKAV g kk B q Z).getD zz undef) (fun zz => (LKAO g kk B q Z).getD zz true) old LKAK 0 LKAL := by
  refine And.intro ?_ (And.intro ?_ (And.intro ?_ (And.intro ?_ (And.intro ?_ (And.intro ?_ (And.intro ?_ (And.intro ?_ (And.intro ?_ (And.intro ?_ (And.intro ?_ (And.intro ?_ (And.intro ?_ (And.intro ?_ (trivial))))))))))))))
  · intro hon o a x ho hJ hold hp
    subst hJ
    have s7 : slot a 7 = .string (bs B) := (hold 7 (by decide)).trans o7
    exact fun_move (.inl ho) ((eval_slot _ _).trans s7) rfl
  · intro hon o a x ho hJ hold hp
    subst hJ
    have s10 : slot a 10 = .string (bs q) := (hold 10 (by decide)).trans o10
    exact fun_move (.inl ho) ((eval_slot _ _).trans s10) rfl
  · intro hon o a x ho hJ hold hp
    subst hJ
    have s5 : slot a 5 = .slice (some ⟨g, 0, none⟩) 5 5 := (hold 5 (by decide)).trans o5
    exact fun_move (.inl ho) ((eval_slot _ _).trans s5) rfl
  · intro hon o a x ho hJ hold hp
    subst hJ
    have s11 : slot a 11 = .int .i64 (kk : Nat) := (hold 11 (by decide)).trans o11
    exact fun_move (.inl ho) ((eval_slot _ _).trans s11) rfl
  · intro hon o a x ho hJ hold hp
    subst hJ
    have s53 : slot a 53 = .slice (some ⟨g, 0, none⟩) 5 5 := hp 2 (by decide) rfl
    have s54 : slot a 54 = .int .i64 (kk : Nat) := hp 3 (by decide) rfl
    refine op_run (v := .pointer (some ⟨g, kk, none⟩)) (w' := x) ?_ ⟨rfl, rfl⟩
    simp only [execOp, ho, eval_slot, s53, s54]
    go_simp
    all_goals omega
  · intro hon o a x ho hJ hold hp
    subst hJ
    have c0 := hz
    have s55 : slot a 55 = .pointer (some ⟨g, kk, none⟩) := hp 4 (by decide) rfl
    refine op_run (v := .string (bs Z)) (w' := x) ?_ ⟨rfl, rfl⟩
    simp only [execOp, ho, eval_slot, s55]
    go_simp
  · intro hon o a x ho hJ hold hp
    subst hJ
    have b1 : (9223372036854775807 < q.length + Z.length) = False := by rw [eq_iff_iff]; simp; omega
    have s52 : slot a 52 = .string (bs q) := hp 1 (by decide) rfl
    have s56 : slot a 56 = .string (bs Z) := hp 5 (by decide) rfl
    refine op_run (v := .string (bs (q ++ Z))) (w' := x) ?_ ⟨rfl, rfl⟩
    simp only [execOp, ho, eval_slot, s52, s56]
    go_simp
  · intro hon o a x ho hJ hold hp
    subst hJ
    have b1 : (9223372036854775807 < q.length + Z.length + 1) = False := by rw [eq_iff_iff]; simp; omega
    have e59 : ({ data := #[59] } : ByteArray) = bs [59] := rfl
    rw [e59] at ho
    have s57 : slot a 57 = .string (bs (q ++ Z)) := hp 6 (by decide) rfl
    refine op_run (v := .string (bs (q ++ Z ++ [59]))) (w' := x) ?_ ⟨rfl, rfl⟩
    simp only [execOp, ho, eval_slot, s57]
    go_simp
  · intro hon o a x ho hJ hold hp
    subst hJ
    have s5 : slot a 5 = .slice (some ⟨g, 0, none⟩) 5 5 := (hold 5 (by decide)).trans o5
    exact fun_move (.inl ho) ((eval_slot _ _).trans s5) rfl
  · intro hon o a x ho hJ hold hp
    subst hJ
    have s11 : slot a 11 = .int .i64 (kk : Nat) := (hold 11 (by decide)).trans o11
    exact fun_move (.inl ho) ((eval_slot _ _).trans s11) rfl
  · intro hon o a x ho hJ hold hp
    subst hJ
    have s59 : slot a 59 = .slice (some ⟨g, 0, none⟩) 5 5 := hp 8 (by decide) rfl
    have s60 : slot a 60 = .int .i64 (kk : Nat) := hp 9 (by decide) rfl
    refine op_run (v := .pointer (some ⟨g, kk, none⟩)) (w' := x) ?_ ⟨rfl, rfl⟩
    simp only [execOp, ho, eval_slot, s59, s60]
    go_simp
    all_goals omega
  · intro hon o a x ho hJ hold hp
    subst hJ
    have c0 := hz
    have s61 : slot a 61 = .pointer (some ⟨g, kk, none⟩) := hp 10 (by decide) rfl
    refine op_run (v := .string (bs Z)) (w' := x) ?_ ⟨rfl, rfl⟩
    simp only [execOp, ho, eval_slot, s61]
    go_simp
  · intro hon o a x ho hJ hold hp
    subst hJ
    have b1 : (9223372036854775807 < q.length + (Z.length + 1) + Z.length) = False := by rw [eq_iff_iff]; simp; omega
    have b2 : (9223372036854775807 < q.length + Z.length + 1 + Z.length) = False := by rw [eq_iff_iff]; simp; omega
    have s58 : slot a 58 = .string (bs (q ++ Z ++ [59])) := hp 7 (by decide) rfl
    have s62 : slot a 62 = .string (bs Z) := hp 11 (by decide) rfl
    refine op_run (v := .string (bs (q ++ Z ++ [59] ++ Z))) (w' := x) ?_ ⟨rfl, rfl⟩
    simp only [execOp, ho, eval_slot, s58, s62]
    go_simp
  · intro hon o a x ho hJ hold hp
    subst hJ
    have b1 : (9223372036854775807 < B.length + (q.length + (Z.length + (1 + Z.length)))) = False := by rw [eq_iff_iff]; simp; omega
    have s51 : slot a 51 = .string (bs B) := hp 0 (by decide) rfl
    have s63 : slot a 63 = .string (bs (q ++ Z ++ [59] ++ Z)) := hp 12 (by decide) rfl
    refine op_run (v := .string (bs (B ++ (q ++ Z ++ [59] ++ Z)))) (w' := x) ?_ ⟨rfl, rfl⟩
    simp only [execOp, ho, eval_slot, s51, s63]
    go_simp
    omega
def LKBL : List Sp := [
  ⟨.move (.tmp 12), none, 103, []⟩,
  ⟨.move (.tmp 18), none, 104, []⟩,
  ⟨.indexAddr 23 (.tmp 103) (.tmp 104), none, 105, [0, 1]⟩,
  ⟨.fieldAddr 33 (.tmp 105) 2, none, 106, [2]⟩,
  ⟨.load 3 (.tmp 106), none, 107, [3]⟩,
  ⟨.binOp .neq 3 (.tmp 107) (.const (.int .i64 1)) 3, none, 108, [4]⟩,
  ⟨.move (.tmp 108), none, 109, [5]⟩,
  ⟨.move (.tmp 18), some (6, false), 110, [6]⟩,
  ⟨.binOp .gtr 3 (.tmp 110) (.const (.int .i64 0)) 3, some (6, false), 111, [6, 7]⟩,
  ⟨.move (.tmp 111), some (6, false), 112, [6, 8]⟩,
  ⟨.move (.tmp 15), some (9, true), 113, [9]⟩,
  ⟨.move (.tmp 18), some (9, true), 114, [9]⟩,
  ⟨.indexAddr 23 (.tmp 113) (.tmp 114), some (9, true), 115, [9, 10, 11]⟩,
  ⟨.fieldAddr 33 (.tmp 115) 2, some (9, true), 116, [9, 12]⟩,
  ⟨.load 3 (.tmp 116), some (9, true), 117, [9, 13]⟩,
  ⟨.move (.tmp 15), some (9, true), 118, [9]⟩,
  ⟨.move (.tmp 18), some (9, true), 119, [9]⟩,
  ⟨.binOp .sub 3 (.tmp 119) (.const (.int .i64 1)) 3, some (9, true), 120, [9, 16]⟩,
  ⟨.indexAddr 23 (.tmp 118) (.tmp 120), some (9, true), 121, [9, 15, 17]⟩,
  ⟨.fieldAddr 33 (.tmp 121) 2, some (9, true), 122, [9, 18]⟩,
  ⟨.load 3 (.tmp 122), some (9, true), 123, [9, 19]⟩,
  ⟨.binOp .lss 3 (.tmp 117) (.tmp 123) 3, some (9, true), 124, [9, 14, 20]⟩,
  ⟨.pick (.tmp 112) (.tmp 124) (.const (.bool false)), some (6, false), 125, [6, 9, 21]⟩,
  ⟨.pick (.tmp 109) (.const (.bool true)) (.tmp 125), none, 126, [6, 22]⟩,
  ⟨.move (.tmp 126), none, 127, [23]⟩,
  ⟨.move (.tmp 15), some (24, false), 128, [24]⟩,
  ⟨.move (.tmp 18), some (24, false), 129, [24]⟩,
  ⟨.indexAddr 23 (.tmp 128) (.tmp 129), some (24, false), 130, [24, 25, 26]⟩,
  ⟨.fieldAddr 33 (.tmp 130) 2, some (24, false), 131, [24, 27]⟩,
  ⟨.load 3 (.tmp 131), some (24, false), 132, [24, 28]⟩,
  ⟨.binOp .lss 3 (.tmp 132) (.const (.int .i64 3)) 3, some (24, false), 133, [24, 29]⟩,
  ⟨.pick (.tmp 127) (.const (.bool true)) (.tmp 133), none, 134, [24, 30]⟩,
  ⟨.move (.tmp 134), none, 135, [31]⟩,
  ⟨.move (.tmp 15), some (32, false), 136, [32]⟩,
  ⟨.move (.tmp 18), some (32, false), 137, [32]⟩,
  ⟨.indexAddr 23 (.tmp 136) (.tmp 137), some (32, false), 138, [32, 33, 34]⟩,
  ⟨.fieldAddr 33 (.tmp 138) 2, some (32, false), 139, [32, 35]⟩,
  ⟨.load 3 (.tmp 139), some (32, false), 140, [32, 36]⟩,
  ⟨.move (.tmp 7), some (32, false), 141, [32]⟩,
  ⟨.call { callee := .value (.func 17), args := #[(.tmp 141), (.const (.string { data := #[10] }))], argTypes := #[9, 9] }, some (32, false), 142, [32, 38]⟩,
  ⟨.binOp .add 3 (.const (.int .i64 1)) (.tmp 142) 3, some (32, false), 143, [32, 39]⟩,
  ⟨.binOp .gtr 3 (.tmp 140) (.tmp 143) 3, some (32, false), 144, [32, 37, 40]⟩,
  ⟨.pick (.tmp 135) (.const (.bool true)) (.tmp 144), none, 145, [32, 41]⟩]
def LKBV (ga oa ca gb ob cb n i y y1 c : Nat) (B : List UInt8) : List Value := [
  .slice (some ⟨ga, oa, none⟩) n ca,
  .int .i64 (i : Nat),
  .pointer (some ⟨ga, oa + i * 3, none⟩),
  .pointer (some ⟨ga, oa + i * 3 + 2, none⟩),
  .int .i64 1,
  .bool false,
  .bool false,
  .int .i64 (i : Nat),
  .bool true,
  .bool true,
  .slice (some ⟨gb, ob, none⟩) n cb,
  .int .i64 (i : Nat),
  .pointer (some ⟨gb, ob + i * 3, none⟩),
  .pointer (some ⟨gb, ob + i * 3 + 2, none⟩),
  .int .i64 (y : Nat),
  .slice (some ⟨gb, ob, none⟩) n cb,
  .int .i64 (i : Nat),
  .int .i64 ((i : Int) - 1),
  .pointer (some ⟨gb, ob + (i - 1) * 3, none⟩),
  .pointer (some ⟨gb, ob + (i - 1) * 3 + 2, none⟩),
  .int .i64 (y1 : Nat),
  .bool false,
  .bool false,
  .bool false,
  .bool false,
  .slice (some ⟨gb, ob, none⟩) n cb,
  .int .i64 (i : Nat),
  .pointer (some ⟨gb, ob + i * 3, none⟩),
  .pointer (some ⟨gb, ob + i * 3 + 2, none⟩),
  .int .i64 (y : Nat),
  .bool false,
  .bool false,
  .bool false,
  .slice (some ⟨gb, ob, none⟩) n cb,
  .int .i64 (i : Nat),
  .pointer (some ⟨gb, ob + i * 3, none⟩),
  .pointer (some ⟨gb, ob + i * 3 + 2, none⟩),
  .int .i64 (y : Nat),
  .string (bs B),
  .int .i64 (c : Nat),
  .int .i64 (1 + (c : Nat)),
  .bool false,
  .bool false]
def LKBO (ga oa ca gb ob cb n i y y1 c : Nat) (B : List UInt8) : List Bool := [true, true, true, true, true, true, true, true, true, true, true, true, true, true, true, true, true, true, true, true, true, true, true, true, true, true, true, true, true, true, true, true, true, true, true, true, true, true, true, true, true, true, true]
def LKBK : List Nat := [103, 104, 105, 106, 107, 108, 109, 110, 111, 112, 113, 114, 115, 116, 117, 118, 119, 120, 121, 122, 123, 124, 125, 126, 127, 128, 129, 130, 131, 132, 133, 134, 135, 136, 137, 138, 139, 140, 141, 142, 143, 144, 145]
theorem lkbk_lt : ∀ r ∈ LKBK, r < 172 := by decide
theorem lkb_on (ga oa ca gb ob cb n i y y1 c : Nat) (B : List UInt8) : OnL (fun zz => (LKBV ga oa ca gb ob cb n i y y1 c B).getD zz undef) (fun zz => (LKBO ga oa ca gb ob cb n i y y1 c B).getD zz true) 0 LKBL :=
  ⟨rfl, ⟨rfl, ⟨rfl, ⟨rfl, ⟨rfl, ⟨rfl, ⟨rfl, ⟨.inl ⟨rfl, by decide, _, rfl, rfl⟩, ⟨.inl ⟨rfl, by decide, _, rfl, rfl⟩, ⟨.inl ⟨rfl, by decide, _, rfl, rfl⟩, ⟨.inl ⟨rfl, by decide, _, rfl, rfl⟩, ⟨.inl ⟨rfl, by decide, _, rfl, rfl⟩, ⟨.inl ⟨rfl, by decide, _, rfl, rfl⟩, ⟨.inl ⟨rfl, by decide, _, rfl, rfl⟩, ⟨.inl ⟨rfl, by decide, _, rfl, rfl⟩, ⟨.inl ⟨rfl, by decide, _, rfl, rfl⟩, ⟨.inl ⟨rfl, by decide, _, rfl, rfl⟩, ⟨.inl ⟨rfl, by decide, _, rfl, rfl⟩, ⟨.inl ⟨rfl, by decide, _, rfl, rfl⟩, ⟨.inl ⟨rfl, by decide, _, rfl, rfl⟩, ⟨.inl ⟨rfl, by decide, _, rfl, rfl⟩, ⟨.inl ⟨rfl, by decide, _, rfl, rfl⟩, ⟨.inl ⟨rfl, by decide, _, rfl, rfl⟩, ⟨rfl, ⟨rfl, ⟨.inl ⟨rfl, by decide, _, rfl, rfl⟩, ⟨.inl ⟨rfl, by decide, _, rfl, rfl⟩, ⟨.inl ⟨rfl, by decide, _, rfl, rfl⟩, ⟨.inl ⟨rfl, by decide, _, rfl, rfl⟩, ⟨.inl ⟨rfl, by decide, _, rfl, rfl⟩, ⟨.inl ⟨rfl, by decide, _, rfl, rfl⟩, ⟨rfl, ⟨rfl, ⟨.inl ⟨rfl, by decide, _, rfl, rfl⟩, ⟨.inl ⟨rfl, by decide, _, rfl, rfl⟩, ⟨.inl ⟨rfl, by decide, _, rfl, rfl⟩, ⟨.inl ⟨rfl, by decide, _, rfl, rfl⟩, ⟨.inl ⟨rfl, by decide, _, rfl, rfl⟩, ⟨.inl ⟨rfl, by decide, _, rfl, rfl⟩, ⟨.inl ⟨rfl, by decide, _, rfl, rfl⟩, ⟨.inl ⟨rfl, by decide, _, rfl, rfl⟩, ⟨.inl ⟨rfl, by decide, _, rfl, rfl⟩, ⟨rfl, trivial⟩⟩⟩⟩⟩⟩⟩⟩⟩⟩⟩⟩⟩⟩⟩⟩⟩⟩⟩⟩⟩⟩⟩⟩⟩⟩⟩⟩⟩⟩⟩⟩⟩⟩⟩⟩⟩⟩⟩⟩⟩⟩⟩
set_option maxRecDepth 100000 in
set_option maxHeartbeats 1000000 in
theorem lkb_obl (ga oa ca gb ob cb n i y y1 c : Nat) (B : List UInt8) (W : World) (cA : ∀ x, Below W.heap.size W x → x.cell? ⟨ga, oa + i * 3 + 2, none⟩ = some (.int .i64 1)) (cB : ∀ x, Below W.heap.size W x → x.cell? ⟨gb, ob + i * 3 + 2, none⟩ = some (.int .i64 (y : Nat))) (cB1 : ∀ x, Below W.heap.size W x → x.cell? ⟨gb, ob + (i - 1) * 3 + 2, none⟩ = some (.int .i64 (y1 : Nat))) (hi0 : 0 < i) (hi : i < n) (hn : n ≤ 10000) (hy3 : 3 ≤ y) (hyy : y1 ≤ y) (hyc : y ≤ 1 + c) (hcc : c ≤ 100000000) (hC : ∀ x, Below W.heap.size W x → Calls Tryd.prog 17 #[.string (bs B), .string { data := #[10] }] x fun e w' => e = .returned (.int .i64 (c : Nat)) ∧ Below x.heap.size x w') (Q : Exit → Act → World → Prop) (old : Nat → Value) (o7 : old 7 = .string (bs B)) (o12 : old 12 = .slice (some ⟨ga, oa, none⟩) n ca) (o15 : old 15 = .slice (some ⟨gb, ob, none⟩) n cb) (o18 : old 18 = .int .i64 (i : Nat)) :
    Obl Tryd.prog Q (fun x => Below W.heap.size W x) LKBL (fun zz => (LKBV ga oa ca gb ob cb n i y y1 c B).getD zz undef) (fun zz => (LKBO ga oa ca gb ob cb n i y y1 c B).getD zz true) old LKBK 0 LKBL := by
  refine And.intro ?_ (And.intro ?_ (And.intro ?_ (And.intro ?_ (And.intro ?_ (And.intro ?_ (And.intro ?_ (And.intro ?_ (And.intro ?_ (And.intro ?_ (And.intro ?_ (And.intro ?_ (And.intro ?_ (And.intro ?_ (And.intro ?_ (And.intro ?_ (And.intro ?_ (And.intro ?_ (And.intro ?_ (And.intro ?_ (And.intro ?_ (And.intro ?_ (And.intro ?_ (And.intro ?_ (And.intro ?_ (And.intro ?_ (And.intro ?_ (And.intro ?_ (And.intro ?_ (And.intro ?_ (And.intro ?_ (And.intro ?_ (And.intro ?_ (And.intro ?_ (And.intro ?_ (And.intro ?_ (And.intro ?_ (And.intro ?_ (And.intro ?_ (And.intro ?_ (And.intro ?_ (And.intro ?_ (And.intro ?_ (trivial)))))))))))))))))))))))))))))))))))))))))))
  · intro hon o a x ho hJ hold hp
    have s12 : slot a 12 = .slice (some ⟨ga, oa, none⟩) n ca := (hold 12 (by decide)).trans o12
    exact fun_move (.inl ho) ((eval_slot _ _).trans s12) hJ
  · intro hon o a x ho hJ hold hp
    have s18 : slot a 18 = .int .i64 (i : Nat) := (hold 18 (by decide)).trans o18
    exact fun_move (.inl ho) ((eval_slot _ _).trans s18) hJ
  · intro hon o a x ho hJ hold hp
    have s103 : slot a 103 = .slice (some ⟨ga, oa, none⟩) n ca := hp 0 (by decide) rfl
    have s104 : slot a 104 = .int .i64 (i : Nat) := hp 1 (by decide) rfl
    refine op_run (v := .pointer (some ⟨ga, oa + i * 3, none⟩)) (w' := x) ?_ ⟨rfl, hJ⟩
    simp only [execOp, ho, eval_slot, s103, s104]
    go_simp
    all_goals omega
  · intro hon o a x ho hJ hold hp
    have s105 : slot a 105 = .pointer (some ⟨ga, oa + i * 3, none⟩) := hp 2 (by decide) rfl
    refine op_run (v := .pointer (some ⟨ga, oa + i * 3 + 2, none⟩)) (w' := x) ?_ ⟨rfl, hJ⟩
    simp only [execOp, ho, eval_slot, s105]
    go_simp
  · intro hon o a x ho hJ hold hp
    have c0 := cA x hJ
    have s106 : slot a 106 = .pointer (some ⟨ga, oa + i * 3 + 2, none⟩) := hp 3 (by decide) rfl
    refine op_run (v := .int .i64 1) (w' := x) ?_ ⟨rfl, hJ⟩
    simp only [execOp, ho, eval_slot, s106]
    go_simp
  · intro hon o a x ho hJ hold hp
    have s107 : slot a 107 = .int .i64 1 := hp 4 (by decide) rfl
    refine op_run (v := .bool false) (w' := x) ?_ ⟨rfl, hJ⟩
    simp only [execOp, ho, eval_slot, s107]
    go_simp
    all_goals omega
  · intro hon o a x ho hJ hold hp
    have s108 : slot a 108 = .bool false := hp 5 (by decide) rfl
    exact fun_move (.inl ho) ((eval_slot _ _).trans s108) hJ
  · intro hon o a x ho hJ hold hp
    have s18 : slot a 18 = .int .i64 (i : Nat) := (hold 18 (by decide)).trans o18
    exact fun_move (.inl ho) ((eval_slot _ _).trans s18) hJ
  · intro hon o a x ho hJ hold hp
    have s110 : slot a 110 = .int .i64 (i : Nat) := hp 7 (by decide) rfl
    refine op_run (v := .bool true) (w' := x) ?_ ⟨rfl, hJ⟩
    simp only [execOp, ho, eval_slot, s110]
    go_simp
    all_goals omega
  · intro hon o a x ho hJ hold hp
    have s111 : slot a 111 = .bool true := hp 8 (by decide) rfl
    exact fun_move (.inl ho) ((eval_slot _ _).trans s111) hJ
  · intro hon o a x ho hJ hold hp
    have s15 : slot a 15 = .slice (some ⟨gb, ob, none⟩) n cb := (hold 15 (by decide)).trans o15
    exact fun_move (.inl ho) ((eval_slot _ _).trans s15) hJ
  · intro hon o a x ho hJ hold hp
    have s18 : slot a 18 = .int .i64 (i : Nat) := (hold 18 (by decide)).trans o18
    exact fun_move (.inl ho) ((eval_slot _ _).trans s18) hJ
  · intro hon o a x ho hJ hold hp
    have s113 : slot a 113 = .slice (some ⟨gb, ob, none⟩) n cb := hp 10 (by decide) rfl
    have s114 : slot a 114 = .int .i64 (i : Nat) := hp 11 (by decide) rfl
    refine op_run (v := .pointer (some ⟨gb, ob + i * 3, none⟩)) (w' := x) ?_ ⟨rfl, hJ⟩
    simp only [execOp, ho, eval_slot, s113, s114]
    go_simp
    all_goals omega
  · intro hon o a x ho hJ hold hp
    have s115 : slot a 115 = .pointer (some ⟨gb, ob + i * 3, none⟩) := hp 12 (by decide) rfl
    refine op_run (v := .pointer (some ⟨gb, ob + i * 3 + 2, none⟩)) (w' := x) ?_ ⟨rfl, hJ⟩
    simp only [execOp, ho, eval_slot, s115]
    go_simp
  · intro hon o a x ho hJ hold hp
    have c0 := cB x hJ
    have s116 : slot a 116 = .pointer (some ⟨gb, ob + i * 3 + 2, none⟩) := hp 13 (by decide) rfl
    refine op_run (v := .int .i64 (y : Nat)) (w' := x) ?_ ⟨rfl, hJ⟩
    simp only [execOp, ho, eval_slot, s116]
    go_simp
  · intro hon o a x ho hJ hold hp
    have s15 : slot a 15 = .slice (some ⟨gb, ob, none⟩) n cb := (hold 15 (by decide)).trans o15
    exact fun_move (.inl ho) ((eval_slot _ _).trans s15) hJ
  · intro hon o a x ho hJ hold hp
    have s18 : slot a 18 = .int .i64 (i : Nat) := (hold 18 (by decide)).trans o18
    exact fun_move (.inl ho) ((eval_slot _ _).trans s18) hJ
  · intro hon o a x ho hJ hold hp
    have z1 : IntKind.i64.wrap ((i : Int) - 1) = (i : Int) - 1 := IntWalk.i64_in _ (by omega)
    have s119 : slot a 119 = .int .i64 (i : Nat) := hp 16 (by decide) rfl
    refine op_run (v := .int .i64 ((i : Int) - 1)) (w' := x) ?_ ⟨rfl, hJ⟩
    simp only [execOp, ho, eval_slot, s119]
    go_simp
  · intro hon o a x ho hJ hold hp
    have s118 : slot a 118 = .slice (some ⟨gb, ob, none⟩) n cb := hp 15 (by decide) rfl
    have s120 : slot a 120 = .int .i64 ((i : Int) - 1) := hp 17 (by decide) rfl
    refine op_run (v := .pointer (some ⟨gb, ob + (i - 1) * 3, none⟩)) (w' := x) ?_ ⟨rfl, hJ⟩
    simp only [execOp, ho, eval_slot, s118, s120]
    go_simp
    all_goals omega
  · intro hon o a x ho hJ hold hp
    have s121 : slot a 121 = .pointer (some ⟨gb, ob + (i - 1) * 3, none⟩) := hp 18 (by decide) rfl
    refine op_run (v := .pointer (some ⟨gb, ob + (i - 1) * 3 + 2, none⟩)) (w' := x) ?_ ⟨rfl, hJ⟩
    simp only [execOp, ho, eval_slot, s121]
    go_simp
  · intro hon o a x ho hJ hold hp
    have c0 := cB1 x hJ
    have s122 : slot a 122 = .pointer (some ⟨gb, ob + (i - 1) * 3 + 2, none⟩) := hp 19 (by decide) rfl
    refine op_run (v := .int .i64 (y1 : Nat)) (w' := x) ?_ ⟨rfl, hJ⟩
    simp only [execOp, ho, eval_slot, s122]
    go_simp
  · intro hon o a x ho hJ hold hp
    have s117 : slot a 117 = .int .i64 (y : Nat) := hp 14 (by decide) rfl
    have s123 : slot a 123 = .int .i64 (y1 : Nat) := hp 20 (by decide) rfl
    refine op_run (v := .bool false) (w' := x) ?_ ⟨rfl, hJ⟩
    simp only [execOp, ho, eval_slot, s117, s123]
    go_simp
    all_goals omega
  · intro hon o a x ho hJ hold hp
    have s112 : slot a 112 = .bool true := hp 9 (by decide) rfl
    exact fun_pick ho s112 (fun hb => hp 21 (by decide) rfl) hJ
  · intro hon o a x ho hJ hold hp
    have s109 : slot a 109 = .bool false := hp 6 (by decide) rfl
    exact fun_pickO ho s109 (fun hb => hp 22 (by decide) rfl) hJ
  · intro hon o a x ho hJ hold hp
    have s126 : slot a 126 = .bool false := hp 23 (by decide) rfl
    exact fun_move (.inl ho) ((eval_slot _ _).trans s126) hJ
  · intro hon o a x ho hJ hold hp
    have s15 : slot a 15 = .slice (some ⟨gb, ob, none⟩) n cb := (hold 15 (by decide)).trans o15
    exact fun_move (.inl ho) ((eval_slot _ _).trans s15) hJ
  · intro hon o a x ho hJ hold hp
    have s18 : slot a 18 = .int .i64 (i : Nat) := (hold 18 (by decide)).trans o18
    exact fun_move (.inl ho) ((eval_slot _ _).trans s18) hJ
  · intro hon o a x ho hJ hold hp
    have s128 : slot a 128 = .slice (some ⟨gb, ob, none⟩) n cb := hp 25 (by decide) rfl
    have s129 : slot a 129 = .int .i64 (i : Nat) := hp 26 (by decide) rfl
    refine op_run (v := .pointer (some ⟨gb, ob + i * 3, none⟩)) (w' := x) ?_ ⟨rfl, hJ⟩
    simp only [execOp, ho, eval_slot, s128, s129]
    go_simp
    all_goals omega
  · intro hon o a x ho hJ hold hp
    have s130 : slot a 130 = .pointer (some ⟨gb, ob + i * 3, none⟩) := hp 27 (by decide) rfl
    refine op_run (v := .pointer (some ⟨gb, ob + i * 3 + 2, none⟩)) (w' := x) ?_ ⟨rfl, hJ⟩
    simp only [execOp, ho, eval_slot, s130]
    go_simp
  · intro hon o a x ho hJ hold hp
    have c0 := cB x hJ
    have s131 : slot a 131 = .pointer (some ⟨gb, ob + i * 3 + 2, none⟩) := hp 28 (by decide) rfl
    refine op_run (v := .int .i64 (y : Nat)) (w' := x) ?_ ⟨rfl, hJ⟩
    simp only [execOp, ho, eval_slot, s131]
    go_simp
  · intro hon o a x ho hJ hold hp
    have s132 : slot a 132 = .int .i64 (y : Nat) := hp 29 (by decide) rfl
    refine op_run (v := .bool false) (w' := x) ?_ ⟨rfl, hJ⟩
    simp only [execOp, ho, eval_slot, s132]
    go_simp
    all_goals omega
  · intro hon o a x ho hJ hold hp
    have s127 : slot a 127 = .bool false := hp 24 (by decide) rfl
    exact fun_pickO ho s127 (fun hb => hp 30 (by decide) rfl) hJ
  · intro hon o a x ho hJ hold hp
    have s134 : slot a 134 = .bool false := hp 31 (by decide) rfl
    exact fun_move (.inl ho) ((eval_slot _ _).trans s134) hJ
  · intro hon o a x ho hJ hold hp
    have s15 : slot a 15 = .slice (some ⟨gb, ob, none⟩) n cb := (hold 15 (by decide)).trans o15
    exact fun_move (.inl ho) ((eval_slot _ _).trans s15) hJ
  · intro hon o a x ho hJ hold hp
    have s18 : slot a 18 = .int .i64 (i : Nat) := (hold 18 (by decide)).trans o18
    exact fun_move (.inl ho) ((eval_slot _ _).trans s18) hJ
  · intro hon o a x ho hJ hold hp
    have s136 : slot a 136 = .slice (some ⟨gb, ob, none⟩) n cb := hp 33 (by decide) rfl
    have s137 : slot a 137 = .int .i64 (i : Nat) := hp 34 (by decide) rfl
    refine op_run (v := .pointer (some ⟨gb, ob + i * 3, none⟩)) (w' := x) ?_ ⟨rfl, hJ⟩
    simp only [execOp, ho, eval_slot, s136, s137]
    go_simp
    all_goals omega
  · intro hon o a x ho hJ hold hp
    have s138 : slot a 138 = .pointer (some ⟨gb, ob + i * 3, none⟩) := hp 35 (by decide) rfl
    refine op_run (v := .pointer (some ⟨gb, ob + i * 3 + 2, none⟩)) (w' := x) ?_ ⟨rfl, hJ⟩
    simp only [execOp, ho, eval_slot, s138]
    go_simp
  · intro hon o a x ho hJ hold hp
    have c0 := cB x hJ
    have s139 : slot a 139 = .pointer (some ⟨gb, ob + i * 3 + 2, none⟩) := hp 36 (by decide) rfl
    refine op_run (v := .int .i64 (y : Nat)) (w' := x) ?_ ⟨rfl, hJ⟩
    simp only [execOp, ho, eval_slot, s139]
    go_simp
  · intro hon o a x ho hJ hold hp
    have s7 : slot a 7 = .string (bs B) := (hold 7 (by decide)).trans o7
    exact fun_move (.inl ho) ((eval_slot _ _).trans s7) hJ
  · intro hon o a x ho hJ hold hp
    have s141 : slot a 141 = .string (bs B) := hp 38 (by decide) rfl
    have f141 : a.tmps[141]?.getD undef = .string (bs B) := by simpa [slot] using s141
    refine op_enter (f := 17) (args := #[.string (bs B), .string { data := #[10] }]) ?_ (hC x hJ) ?_
    · simp only [execOp, ho]
      simp [resolve, invoke, Act.eval, f141]
      go_simp
    · rintro e x1 ⟨rfl, k⟩
      exact ⟨_, rfl, rfl, hJ.trans (k.mono hJ.size)⟩
  · intro hon o a x ho hJ hold hp
    have z1 : IntKind.i64.wrap (1 + (c : Int)) = 1 + (c : Int) := IntWalk.i64_in _ (by omega)
    have s142 : slot a 142 = .int .i64 (c : Nat) := hp 39 (by decide) rfl
    refine op_run (v := .int .i64 (1 + (c : Nat))) (w' := x) ?_ ⟨rfl, hJ⟩
    simp only [execOp, ho, eval_slot, s142]
    go_simp
  · intro hon o a x ho hJ hold hp
    have s140 : slot a 140 = .int .i64 (y : Nat) := hp 37 (by decide) rfl
    have s143 : slot a 143 = .int .i64 (1 + (c : Nat)) := hp 40 (by decide) rfl
    refine op_run (v := .bool false) (w' := x) ?_ ⟨rfl, hJ⟩
    simp only [execOp, ho, eval_slot, s140, s143]
    go_simp
    all_goals omega
  · intro hon o a x ho hJ hold hp
    have s135 : slot a 135 = .bool false := hp 32 (by decide) rfl
    exact fun_pickO ho s135 (fun hb => hp 41 (by decide) rfl) hJ
def LKDL : List Sp := [
  ⟨.move (.tmp 12), none, 103, []⟩,
  ⟨.move (.tmp 18), none, 104, []⟩,
  ⟨.indexAddr 23 (.tmp 103) (.tmp 104), none, 105, [0, 1]⟩,
  ⟨.fieldAddr 33 (.tmp 105) 2, none, 106, [2]⟩,
  ⟨.load 3 (.tmp 106), none, 107, [3]⟩,
  ⟨.binOp .neq 3 (.tmp 107) (.const (.int .i64 1)) 3, none, 108, [4]⟩,
  ⟨.move (.tmp 108), none, 109, [5]⟩,
  ⟨.move (.tmp 18), some (6, false), 110, [6]⟩,
  ⟨.binOp .gtr 3 (.tmp 110) (.const (.int .i64 0)) 3, some (6, false), 111, [6, 7]⟩,
  ⟨.move (.tmp 111), some (6, false), 112, [6, 8]⟩,
  ⟨.move (.tmp 15), some (9, true), 113, [9]⟩,
  ⟨.move (.tmp 18), some (9, true), 114, [9]⟩,
  ⟨.indexAddr 23 (.tmp 113) (.tmp 114), some (9, true), 115, [9, 10, 11]⟩,
  ⟨.fieldAddr 33 (.tmp 115) 2, some (9, true), 116, [9, 12]⟩,
  ⟨.load 3 (.tmp 116), some (9, true), 117, [9, 13]⟩,
  ⟨.move (.tmp 15), some (9, true), 118, [9]⟩,
  ⟨.move (.tmp 18), some (9, true), 119, [9]⟩,
  ⟨.binOp .sub 3 (.tmp 119) (.const (.int .i64 1)) 3, some (9, true), 120, [9, 16]⟩,
  ⟨.indexAddr 23 (.tmp 118) (.tmp 120), some (9, true), 121, [9, 15, 17]⟩,
  ⟨.fieldAddr 33 (.tmp 121) 2, some (9, true), 122, [9, 18]⟩,
  ⟨.load 3 (.tmp 122), some (9, true), 123, [9, 19]⟩,
  ⟨.binOp .lss 3 (.tmp 117) (.tmp 123) 3, some (9, true), 124, [9, 14, 20]⟩,
  ⟨.pick (.tmp 112) (.tmp 124) (.const (.bool false)), some (6, false), 125, [6, 9, 21]⟩,
  ⟨.pick (.tmp 109) (.const (.bool true)) (.tmp 125), none, 126, [6, 22]⟩,
  ⟨.move (.tmp 126), none, 127, [23]⟩,
  ⟨.move (.tmp 15), some (24, false), 128, [24]⟩,
  ⟨.move (.tmp 18), some (24, false), 129, [24]⟩,
  ⟨.indexAddr 23 (.tmp 128) (.tmp 129), some (24, false), 130, [24, 25, 26]⟩,
  ⟨.fieldAddr 33 (.tmp 130) 2, some (24, false), 131, [24, 27]⟩,
  ⟨.load 3 (.tmp 131), some (24, false), 132, [24, 28]⟩,
  ⟨.binOp .lss 3 (.tmp 132) (.const (.int .i64 3)) 3, some (24, false), 133, [24, 29]⟩,
  ⟨.pick (.tmp 127) (.const (.bool true)) (.tmp 133), none, 134, [24, 30]⟩,
  ⟨.move (.tmp 134), none, 135, [31]⟩,
  ⟨.move (.tmp 15), some (32, false), 136, [32]⟩,
  ⟨.move (.tmp 18), some (32, false), 137, [32]⟩,
  ⟨.indexAddr 23 (.tmp 136) (.tmp 137), some (32, false), 138, [32, 33, 34]⟩,
  ⟨.fieldAddr 33 (.tmp 138) 2, some (32, false), 139, [32, 35]⟩,
  ⟨.load 3 (.tmp 139), some (32, false), 140, [32, 36]⟩,
  ⟨.move (.tmp 7), some (32, false), 141, [32]⟩,
  ⟨.call { callee := .value (.func 17), args := #[(.tmp 141), (.const (.string { data := #[10] }))], argTypes := #[9, 9] }, some (32, false), 142, [32, 38]⟩,
  ⟨.binOp .add 3 (.const (.int .i64 1)) (.tmp 142) 3, some (32, false), 143, [32, 39]⟩,
  ⟨.binOp .gtr 3 (.tmp 140) (.tmp 143) 3, some (32, false), 144, [32, 37, 40]⟩,
  ⟨.pick (.tmp 135) (.const (.bool true)) (.tmp 144), none, 145, [32, 41]⟩]
def LKDV (ga oa ca gb ob cb n i y y1 c : Nat) (B : List UInt8) : List Value := [
  .slice (some ⟨ga, oa, none⟩) n ca,
  .int .i64 0,
  .pointer (some ⟨ga, oa, none⟩),
  .pointer (some ⟨ga, oa + 2, none⟩),
  .int .i64 1,
  .bool false,
  .bool false,
  .int .i64 0,
  .bool false,
  .bool false,
  .slice (some ⟨gb, ob, none⟩) n cb,
  .int .i64 0,
  .pointer (some ⟨gb, ob, none⟩),
  .pointer (some ⟨gb, ob + 2, none⟩),
  .int .i64 (y : Nat),
  .slice (some ⟨gb, ob, none⟩) n cb,
  .int .i64 0,
  .int .i64 ((i : Int) - 1),
  .pointer (some ⟨gb, ob + (i - 1) * 3, none⟩),
  .pointer (some ⟨gb, ob + (i - 1) * 3 + 2, none⟩),
  .int .i64 (y1 : Nat),
  .bool false,
  .bool false,
  .bool false,
  .bool false,
  .slice (some ⟨gb, ob, none⟩) n cb,
  .int .i64 0,
  .pointer (some ⟨gb, ob, none⟩),
  .pointer (some ⟨gb, ob + 2, none⟩),
  .int .i64 (y : Nat),
  .bool false,
  .bool false,
  .bool false,
  .slice (some ⟨gb, ob, none⟩) n cb,
  .int .i64 0,
  .pointer (some ⟨gb, ob, none⟩),
  .pointer (some ⟨gb, ob + 2, none⟩),
  .int .i64 (y : Nat),
  .string (bs B),
  .int .i64 (c : Nat),
  .int .i64 (1 + (c : Nat)),
  .bool false,
  .bool false]
def LKDO (ga oa ca gb ob cb n i y y1 c : Nat) (B : List UInt8) : List Bool := [true, true, true, true, true, true, true, true, true, true, false, false, false, false, false, false, false, false, false, false, false, false, true, true, true, true, true, true, true, true, true, true, true, true, true, true, true, true, true, true, true, true, true]
def LKDK : List Nat := [103, 104, 105, 106, 107, 108, 109, 110, 111, 112, 113, 114, 115, 116, 117, 118, 119, 120, 121, 122, 123, 124, 125, 126, 127, 128, 129, 130, 131, 132, 133, 134, 135, 136, 137, 138, 139, 140, 141, 142, 143, 144, 145]
theorem lkdk_lt : ∀ r ∈ LKDK, r < 172 := by decide
theorem lkd_on (ga oa ca gb ob cb n i y y1 c : Nat) (B : List UInt8) : OnL (fun zz => (LKDV ga oa ca gb ob cb n i y y1 c B).getD zz undef) (fun zz => (LKDO ga oa ca gb ob cb n i y y1 c B).getD zz true) 0 LKDL :=
  ⟨rfl, ⟨rfl, ⟨rfl, ⟨rfl, ⟨rfl, ⟨rfl, ⟨rfl, ⟨.inl ⟨rfl, by decide, _, rfl, rfl⟩, ⟨.inl ⟨rfl, by decide, _, rfl, rfl⟩, ⟨.inl ⟨rfl, by decide, _, rfl, rfl⟩, ⟨.inl ⟨rfl, by decide, _, rfl, rfl⟩, ⟨.inl ⟨rfl, by decide, _, rfl, rfl⟩, ⟨.inl ⟨rfl, by decide, _, rfl, rfl⟩, ⟨.inl ⟨rfl, by decide, _, rfl, rfl⟩, ⟨.inl ⟨rfl, by decide, _, rfl, rfl⟩, ⟨.inl ⟨rfl, by decide, _, rfl, rfl⟩, ⟨.inl ⟨rfl, by decide, _, rfl, rfl⟩, ⟨.inl ⟨rfl, by decide, _, rfl, rfl⟩, ⟨.inl ⟨rfl, by decide, _, rfl, rfl⟩, ⟨.inl ⟨rfl, by decide, _, rfl, rfl⟩, ⟨.inl ⟨rfl, by decide, _, rfl, rfl⟩, ⟨.inl ⟨rfl, by decide, _, rfl, rfl⟩, ⟨.inl ⟨rfl, by decide, _, rfl, rfl⟩, ⟨rfl, ⟨rfl, ⟨.inl ⟨rfl, by decide, _, rfl, rfl⟩, ⟨.inl ⟨rfl, by decide, _, rfl, rfl⟩, ⟨.inl ⟨rfl, by decide, _, rfl, rfl⟩, ⟨.inl ⟨rfl, by decide, _, rfl, rfl⟩, ⟨.inl ⟨rfl, by decide, _, rfl, rfl⟩, ⟨.inl ⟨rfl, by decide, _, rfl, rfl⟩, ⟨rfl, ⟨rfl, ⟨.inl ⟨rfl, by decide, _, rfl, rfl⟩, ⟨.inl ⟨rfl, by decide, _, rfl, rfl⟩, ⟨.inl ⟨rfl, by decide, _, rfl, rfl⟩, ⟨.inl ⟨rfl, by decide, _, rfl, rfl⟩, ⟨.inl ⟨rfl, by decide, _, rfl, rfl⟩, ⟨.inl ⟨rfl, by decide, _, rfl, rfl⟩, ⟨.inl ⟨rfl, by decide, _, rfl, rfl⟩, ⟨.inl ⟨rfl, by decide, _, rfl, rfl⟩, ⟨.inl ⟨rfl, by decide, _, rfl, rfl⟩, ⟨rfl, trivial⟩⟩⟩⟩⟩⟩⟩⟩⟩⟩⟩⟩⟩⟩⟩⟩⟩⟩⟩⟩⟩⟩⟩⟩⟩⟩⟩⟩⟩⟩⟩⟩⟩⟩⟩⟩⟩⟩⟩⟩⟩⟩⟩
set_option maxRecDepth 100000 in
set_option maxHeartbeats 1000000 in
theorem lkd_obl (ga oa ca gb ob cb n i y y1 c : Nat) (B : List UInt8) (W : World) (cA : ∀ x, Below W.heap.size W x → x.cell? ⟨ga, oa + 2, none⟩ = some (.int .i64 1)) (cB : ∀ x, Below W.heap.size W x → x.cell? ⟨gb, ob + 2, none⟩ = some (.int .i64 (y : Nat))) (hi : 0 < n) (hn : n ≤ 10000) (hy3 : 3 ≤ y) (hyc : y ≤ 1 + c) (hcc : c ≤ 100000000) (hC : ∀ x, Below W.heap.size W x → Calls Tryd.prog 17 #[.string (bs B), .string { data := #[10] }] x fun e w' => e = .returned (.int .i64 (c : Nat)) ∧ Below x.heap.size x w') (Q : Exit → Act → World → Prop) (old : Nat → Value) (o7 : old 7 = .string (bs B)) (o12 : old 12 = .slice (some ⟨ga, oa, none⟩) n ca) (o15 : old 15 = .slice (some ⟨gb, ob, none⟩) n cb) (o18 : old 18 = .int .i64 0) :
    Obl Tryd.prog Q (fun x => Below W.heap.size W x) LKDL (fun zz => (LKDV ga oa ca gb ob cb n i y y1 c B).getD zz undef) (fun zz => (LKDO ga oa ca gb ob cb n i y y1 c B).getD zz true) old LKDK 0 LKDL := by
  refine And.intro ?_ (And.intro ?_ (And.intro ?_ (And.intro ?_ (And.intro ?_ (And.intro ?_ (And.intro ?_ (And.intro ?_ (And.intro ?_ (And.intro ?_ (And.intro ?_ (And.intro ?_ (And.intro ?_ (And.intro ?_ (And.intro ?_ (And.intro ?_ (And.intro ?_ (And.intro ?_ (And.intro ?_ (And.intro ?_ (And.intro ?_ (And.intro ?_ (And.intro ?_ (And.intro ?_ (And.intro ?_ (And.intro ?_ (And.intro ?_ (And.intro ?_ (And.intro ?_ (And.intro ?_ (And.intro ?_ (And.intro ?_ (And.intro ?_ (And.intro ?_ (And.intro ?_ (And.intro ?_ (And.intro ?_ (And.intro ?_ (And.intro ?_ (And.intro ?_ (And.intro ?_ (And.intro ?_ (And.intro ?_ (trivial)))))))))))))))))))))))))))))))))))))))))))
  · intro hon o a x ho hJ hold hp
    have s12 : slot a 12 = .slice (some ⟨ga, oa, none⟩) n ca := (hold 12 (by decide)).trans o12
    exact fun_move (.inl ho) ((eval_slot _ _).trans s12) hJ
  · intro hon o a x ho hJ hold hp
    have s18 : slot a 18 = .int .i64 0 := (hold 18 (by decide)).trans o18
    exact fun_move (.inl ho) ((eval_slot _ _).trans s18) hJ
  · intro hon o a x ho hJ hold hp
    have s103 : slot a 103 = .slice (some ⟨ga, oa, none⟩) n ca := hp 0 (by decide) rfl
    have s104 : slot a 104 = .int .i64 0 := hp 1 (by decide) rfl
    refine op_run (v := .pointer (some ⟨ga, oa, none⟩)) (w' := x) ?_ ⟨rfl, hJ⟩
    simp only [execOp, ho, eval_slot, s103, s104]
    go_simp
    all_goals omega
  · intro hon o a x ho hJ hold hp
    have s105 : slot a 105 = .pointer (some ⟨ga, oa, none⟩) := hp 2 (by decide) rfl
    refine op_run (v := .pointer (some ⟨ga, oa + 2, none⟩)) (w' := x) ?_ ⟨rfl, hJ⟩
    simp only [execOp, ho, eval_slot, s105]
    go_simp
  · intro hon o a x ho hJ hold hp
    have c0 := cA x hJ
    have s106 : slot a 106 = .pointer (some ⟨ga, oa + 2, none⟩) := hp 3 (by decide) rfl
    refine op_run (v := .int .i64 1) (w' := x) ?_ ⟨rfl, hJ⟩
    simp only [execOp, ho, eval_slot, s106]
    go_simp
  · intro hon o a x ho hJ hold hp
    have s107 : slot a 107 = .int .i64 1 := hp 4 (by decide) rfl
    refine op_run (v := .bool false) (w' := x) ?_ ⟨rfl, hJ⟩
    simp only [execOp, ho, eval_slot, s107]
    go_simp
    all_goals omega
  · intro hon o a x ho hJ hold hp
    have s108 : slot a 108 = .bool false := hp 5 (by decide) rfl
    exact fun_move (.inl ho) ((eval_slot _ _).trans s108) hJ
  · intro hon o a x ho hJ hold hp
    have s18 : slot a 18 = .int .i64 0 := (hold 18 (by decide)).trans o18
    exact fun_move (.inl ho) ((eval_slot _ _).trans s18) hJ
  · intro hon o a x ho hJ hold hp
    have s110 : slot a 110 = .int .i64 0 := hp 7 (by decide) rfl
    refine op_run (v := .bool false) (w' := x) ?_ ⟨rfl, hJ⟩
    simp only [execOp, ho, eval_slot, s110]
    go_simp
    all_goals omega
  · intro hon o a x ho hJ hold hp
    have s111 : slot a 111 = .bool false := hp 8 (by decide) rfl
    exact fun_move (.inl ho) ((eval_slot _ _).trans s111) hJ
  · intro hon o a x ho hJ hold hp
    exact absurd (show false = true from hon) (by decide)
  · intro hon o a x ho hJ hold hp
    exact absurd (show false = true from hon) (by decide)
  · intro hon o a x ho hJ hold hp
    exact absurd (show false = true from hon) (by decide)
  · intro hon o a x ho hJ hold hp
    exact absurd (show false = true from hon) (by decide)
  · intro hon o a x ho hJ hold hp
    exact absurd (show false = true from hon) (by decide)
  · intro hon o a x ho hJ hold hp
    exact absurd (show false = true from hon) (by decide)
  · intro hon o a x ho hJ hold hp
    exact absurd (show false = true from hon) (by decide)
  · intro hon o a x ho hJ hold hp
    exact absurd (show false = true from hon) (by decide)
  · intro hon o a x ho hJ hold hp
    exact absurd (show false = true from hon) (by decide)
  · intro hon o a x ho hJ hold hp
    exact absurd (show false = true from hon) (by decide)
  · intro hon o a x ho hJ hold hp
    exact absurd (show false = true from hon) (by decide)
  · intro hon o a x ho hJ hold hp
    exact absurd (show false = true from hon) (by decide)
  · intro hon o a x ho hJ hold hp
    have s112 : slot a 112 = .bool false := hp 9 (by decide) rfl
    exact fun_pick (y := false) ho s112 (fun hb => absurd hb (by decide)) hJ
  · intro hon o a x ho hJ hold hp
    have s109 : slot a 109 = .bool false := hp 6 (by decide) rfl
    exact fun_pickO ho s109 (fun hb => hp 22 (by decide) rfl) hJ
  · intro hon o a x ho hJ hold hp
    have s126 : slot a 126 = .bool false := hp 23 (by decide) rfl
    exact fun_move (.inl ho) ((eval_slot _ _).trans s126) hJ
  · intro hon o a x ho hJ hold hp
    have s15 : slot a 15 = .slice (some ⟨gb, ob, none⟩) n cb := (hold 15 (by decide)).trans o15
    exact fun_move (.inl ho) ((eval_slot _ _).trans s15) hJ
  · intro hon o a x ho hJ hold hp
    have s18 : slot a 18 = .int .i64 0 := (hold 18 (by decide)).trans o18
    exact fun_move (.inl ho) ((eval_slot _ _).trans s18) hJ
  · intro hon o a x ho hJ hold hp
    have s128 : slot a 128 = .slice (some ⟨gb, ob, none⟩) n cb := hp 25 (by decide) rfl
    have s129 : slot a 129 = .int .i64 0 := hp 26 (by decide) rfl
    refine op_run (v := .pointer (some ⟨gb, ob, none⟩)) (w' := x) ?_ ⟨rfl, hJ⟩
    simp only [execOp, ho, eval_slot, s128, s129]
    go_simp
    all_goals omega
  · intro hon o a x ho hJ hold hp
    have s130 : slot a 130 = .pointer (some ⟨gb, ob, none⟩) := hp 27 (by decide) rfl
    refine op_run (v := .pointer (some ⟨gb, ob + 2, none⟩)) (w' := x) ?_ ⟨rfl, hJ⟩
    simp only [execOp, ho, eval_slot, s130]
    go_simp
  · intro hon o a x ho hJ hold hp
    have c0 := cB x hJ
    have s131 : slot a 131 = .pointer (some ⟨gb, ob + 2, none⟩) := hp 28 (by decide) rfl
    refine op_run (v := .int .i64 (y : Nat)) (w' := x) ?_ ⟨rfl, hJ⟩
    simp only [execOp, ho, eval_slot, s131]
    go_simp
  · intro hon o a x ho hJ hold hp
    have s132 : slot a 132 = .int .i64 (y : Nat) := hp 29 (by decide) rfl
    refine op_run (v := .bool false) (w' := x) ?_ ⟨rfl, hJ⟩
    simp only [execOp, ho, eval_slot, s132]
    go_simp
    all_goals omega
  · intro hon o a x ho hJ hold hp
    have s127 : slot a 127 = .bool false := hp 24 (by decide) rfl
    exact fun_pickO ho s127 (fun hb => hp 30 (by decide) rfl) hJ
  · intro hon o a x ho hJ hold hp
    have s134 : slot a 134 = .bool false := hp 31 (by decide) rfl
    exact fun_move (.inl ho) ((eval_slot _ _).trans s134) hJ
  · intro hon o a x ho hJ hold hp
    have s15 : slot a 15 = .slice (some ⟨gb, ob, none⟩) n cb := (hold 15 (by decide)).trans o15
    exact fun_move (.inl ho) ((eval_slot _ _).trans s15) hJ
  · intro hon o a x ho hJ hold hp
    have s18 : slot a 18 = .int .i64 0 := (hold 18 (by decide)).trans o18
    exact fun_move (.inl ho) ((eval_slot _ _).trans s18) hJ
  · intro hon o a x ho hJ hold hp
    have s136 : slot a 136 = .slice (some ⟨gb, ob, none⟩) n cb := hp 33 (by decide) rfl
    have s137 : slot a 137 = .int .i64 0 := hp 34 (by decide) rfl
    refine op_run (v := .pointer (some ⟨gb, ob, none⟩)) (w' := x) ?_ ⟨rfl, hJ⟩
    simp only [execOp, ho, eval_slot, s136, s137]
    go_simp
    all_goals omega
  · intro hon o a x ho hJ hold hp
    have s138 : slot a 138 = .pointer (some ⟨gb, ob, none⟩) := hp 35 (by decide) rfl
    refine op_run (v := .pointer (some ⟨gb, ob + 2, none⟩)) (w' := x) ?_ ⟨rfl, hJ⟩
    simp only [execOp, ho, eval_slot, s138]
    go_simp
  · intro hon o a x ho hJ hold hp
    have c0 := cB x hJ
    have s139 : slot a 139 = .pointer (some ⟨gb, ob + 2, none⟩) := hp 36 (by decide) rfl
    refine op_run (v := .int .i64 (y : Nat)) (w' := x) ?_ ⟨rfl, hJ⟩
    simp only [execOp, ho, eval_slot, s139]
    go_simp
  · intro hon o a x ho hJ hold hp
    have s7 : slot a 7 = .string (bs B) := (hold 7 (by decide)).trans o7
    exact fun_move (.inl ho) ((eval_slot _ _).trans s7) hJ
  · intro hon o a x ho hJ hold hp
    have s141 : slot a 141 = .string (bs B) := hp 38 (by decide) rfl
    have f141 : a.tmps[141]?.getD undef = .string (bs B) := by simpa [slot] using s141
    refine op_enter (f := 17) (args := #[.string (bs B), .string { data := #[10] }]) ?_ (hC x hJ) ?_
    · simp only [execOp, ho]
      simp [resolve, invoke, Act.eval, f141]
      go_simp
    · rintro e x1 ⟨rfl, k⟩
      exact ⟨_, rfl, rfl, hJ.trans (k.mono hJ.size)⟩
  · intro hon o a x ho hJ hold hp
    have z1 : IntKind.i64.wrap (1 + (c : Int)) = 1 + (c : Int) := IntWalk.i64_in _ (by omega)
    have s142 : slot a 142 = .int .i64 (c : Nat) := hp 39 (by decide) rfl
    refine op_run (v := .int .i64 (1 + (c : Nat))) (w' := x) ?_ ⟨rfl, hJ⟩
    simp only [execOp, ho, eval_slot, s142]
    go_simp
  · intro hon o a x ho hJ hold hp
    have s140 : slot a 140 = .int .i64 (y : Nat) := hp 37 (by decide) rfl
    have s143 : slot a 143 = .int .i64 (1 + (c : Nat)) := hp 40 (by decide) rfl
    refine op_run (v := .bool false) (w' := x) ?_ ⟨rfl, hJ⟩
    simp only [execOp, ho, eval_slot, s140, s143]
    go_simp
    all_goals omega
  · intro hon o a x ho hJ hold hp
    have s135 : slot a 135 = .bool false := hp 32 (by decide) rfl
    exact fun_pickO ho s135 (fun hb => hp 41 (by decide) rfl) hJ
def LKEL : List Sp := [
  ⟨.move (.tmp 18), none, 146, []⟩,
  ⟨.binOp .rem 3 (.tmp 146) (.const (.int .i64 2)) 3, none, 147, [0]⟩,
  ⟨.binOp .eql 3 (.tmp 147) (.const (.int .i64 0)) 3, none, 148, [1]⟩,
  ⟨.move (.tmp 148), none, 149, [2]⟩,
  ⟨.move (.tmp 12), some (3, true), 150, [3]⟩,
  ⟨.move (.tmp 18), some (3, true), 151, [3]⟩,
  ⟨.indexAddr 23 (.tmp 150) (.tmp 151), some (3, true), 152, [3, 4, 5]⟩,
  ⟨.fieldAddr 33 (.tmp 152) 0, some (3, true), 153, [3, 6]⟩,
  ⟨.load 3 (.tmp 153), some (3, true), 154, [3, 7]⟩,
  ⟨.binOp .neq 3 (.tmp 154) (.const (.int .i64 4)) 3, some (3, true), 155, [3, 8]⟩,
  ⟨.move (.tmp 155), some (3, true), 156, [3, 9]⟩,
  ⟨.move (.tmp 12), some (10, false), 157, [10]⟩,
  ⟨.move (.tmp 18), some (10, false), 158, [10]⟩,
  ⟨.indexAddr 23 (.tmp 157) (.tmp 158), some (10, false), 159, [10, 11, 12]⟩,
  ⟨.fieldAddr 33 (.tmp 159) 1, some (10, false), 160, [10, 13]⟩,
  ⟨.load 9 (.tmp 160), some (10, false), 161, [10, 14]⟩,
  ⟨.move (.tmp 0), some (10, false), 162, [10]⟩,
  ⟨.move (.tmp 18), some (10, false), 163, [10]⟩,
  ⟨.binOp .quo 3 (.tmp 163) (.const (.int .i64 2)) 3, some (10, false), 164, [10, 17]⟩,
  ⟨.indexAddr 42 (.tmp 162) (.tmp 164), some (10, false), 165, [10, 16, 18]⟩,
  ⟨.load 9 (.tmp 165), some (10, false), 166, [10, 19]⟩,
  ⟨.call { callee := .value (.func 18), args := #[(.tmp 166), (.const (.int .i64 50))], argTypes := #[9, 3] }, some (10, false), 167, [10, 20]⟩,
  ⟨.binOp .neq 9 (.tmp 161) (.tmp 167) 9, some (10, false), 168, [10, 15, 21]⟩,
  ⟨.pick (.tmp 156) (.const (.bool true)) (.tmp 168), some (3, true), 169, [3, 10, 22]⟩,
  ⟨.pick (.tmp 149) (.tmp 169) (.const (.bool false)), none, 170, [3, 23]⟩]
def LKEV (ga oa ca n gw ow cw m j : Nat) (t : List UInt8) : List Value := [
  .int .i64 ((2 * j : Nat) : Int),
  .int .i64 0,
  .bool true,
  .bool true,
  .slice (some ⟨ga, oa, none⟩) n ca,
  .int .i64 ((2 * j : Nat) : Int),
  .pointer (some ⟨ga, oa + 2 * j * 3, none⟩),
  .pointer (some ⟨ga, oa + 2 * j * 3, none⟩),
  .int .i64 4,
  .bool false,
  .bool false,
  .slice (some ⟨ga, oa, none⟩) n ca,
  .int .i64 ((2 * j : Nat) : Int),
  .pointer (some ⟨ga, oa + 2 * j * 3, none⟩),
  .pointer (some ⟨ga, oa + 2 * j * 3 + 1, none⟩),
  .string (bs (t.take 50)),
  .slice (some ⟨gw, ow, none⟩) m cw,
  .int .i64 ((2 * j : Nat) : Int),
  .int .i64 (j : Nat),
  .pointer (some ⟨gw, ow + j, none⟩),
  .string (bs t),
  .string (bs (t.take 50)),
  .bool false,
  .bool false,
  .bool false]
def LKEO (ga oa ca n gw ow cw m j : Nat) (t : List UInt8) : List Bool := [true, true, true, true, true, true, true, true, true, true, true, true, true, true, true, true, true, true, true, true, true, true, true, true, true]
def LKEK : List Nat := [146, 147, 148, 149, 150, 151, 152, 153, 154, 155, 156, 157, 158, 159, 160, 161, 162, 163, 164, 165, 166, 167, 168, 169, 170]
theorem lkek_lt : ∀ r ∈ LKEK, r < 172 := by decide
theorem lke_on (ga oa ca n gw ow cw m j : Nat) (t : List UInt8) : OnL (fun zz => (LKEV ga oa ca n gw ow cw m j t).getD zz undef) (fun zz => (LKEO ga oa ca n gw ow cw m j t).getD zz true) 0 LKEL :=
  ⟨rfl, ⟨rfl, ⟨rfl, ⟨rfl, ⟨.inl ⟨rfl, by decide, _, rfl, rfl⟩, ⟨.inl ⟨rfl, by decide, _, rfl, rfl⟩, ⟨.inl ⟨rfl, by decide, _, rfl, rfl⟩, ⟨.inl ⟨rfl, by decide, _, rfl, rfl⟩, ⟨.inl ⟨rfl, by decide, _, rfl, rfl⟩, ⟨.inl ⟨rfl, by decide, _, rfl, rfl⟩, ⟨.inl ⟨rfl, by decide, _, rfl, rfl⟩, ⟨.inl ⟨rfl, by decide, _, rfl, rfl⟩, ⟨.inl ⟨rfl, by decide, _, rfl, rfl⟩, ⟨.inl ⟨rfl, by decide, _, rfl, rfl⟩, ⟨.inl ⟨rfl, by decide, _, rfl, rfl⟩, ⟨.inl ⟨rfl, by decide, _, rfl, rfl⟩, ⟨.inl ⟨rfl, by decide, _, rfl, rfl⟩, ⟨.inl ⟨rfl, by decide, _, rfl, rfl⟩, ⟨.inl ⟨rfl, by decide, _, rfl, rfl⟩, ⟨.inl ⟨rfl, by decide, _, rfl, rfl⟩, ⟨.inl ⟨rfl, by decide, _, rfl, rfl⟩, ⟨.inl ⟨rfl, by decide, _, rfl, rfl⟩, ⟨.inl ⟨rfl, by decide, _, rfl, rfl⟩, ⟨.inl ⟨rfl, by decide, _, rfl, rfl⟩, ⟨rfl, trivial⟩⟩⟩⟩⟩⟩⟩⟩⟩⟩⟩⟩⟩⟩⟩⟩⟩⟩⟩⟩⟩⟩⟩⟩⟩
set_option maxRecDepth 100000 in
set_option maxHeartbeats 1000000 in
theorem lke_obl (ga oa ca n gw ow cw m j : Nat) (t : List UInt8) (W : World) (hj : 2 * j < n) (hjm : j < m) (hn : n ≤ 10000) (hm : m ≤ 10000) (c0 : W.cell? ⟨ga, oa + 2 * j * 3, none⟩ = some (.int .i64 4)) (c1 : W.cell? ⟨ga, oa + 2 * j * 3 + 1, none⟩ = some (.string (bs (t.take 50)))) (cw0 : W.cell? ⟨gw, ow + j, none⟩ = some (.string (bs t))) (hC : ∀ x, Calls Tryd.prog 18 #[.string (bs t), .int .i64 50] x fun e w' => e = .returned (.string (bs (t.take 50))) ∧ x = w') (Q : Exit → Act → World → Prop) (old : Nat → Value) (o0 : old 0 = .slice (some ⟨gw, ow, none⟩) m cw) (o12 : old 12 = .slice (some ⟨ga, oa, none⟩) n ca) (o18 : old 18 = .int .i64 ((2 * j : Nat) : Int)) :
    Obl Tryd.prog Q (fun x => x = W) LKEL (fun zz => (LKEV ga oa ca n gw ow cw m j t).getD zz undef) (fun zz => (LKEO ga oa ca n gw ow cw m j t).getD zz true) old LKEK 0 LKEL := by
  refine And.intro ?_ (And.intro ?_ (And.intro ?_ (And.intro ?_ (And.intro ?_ (And.intro ?_ (And.intro ?_ (And.intro ?_ (And.intro ?_ (And.intro ?_ (And.intro ?_ (And.intro ?_ (And.intro ?_ (And.intro ?_ (And.intro ?_ (And.intro ?_ (And.intro ?_ (And.intro ?_ (And.intro ?_ (And.intro ?_ (And.intro ?_ (And.intro ?_ (And.intro ?_ (And.intro ?_ (And.intro ?_ (trivial)))))))))))))))))))))))))
  · intro hon o a x ho hJ hold hp
    subst hJ
    have s18 : slot a 18 = .int .i64 ((2 * j : Nat) : Int) := (hold 18 (by decide)).trans o18
    exact fun_move (.inl ho) ((eval_slot _ _).trans s18) rfl
  · intro hon o a x ho hJ hold hp
    subst hJ
    have s146 : slot a 146 = .int .i64 ((2 * j : Nat) : Int) := hp 0 (by decide) rfl
    refine op_run (v := .int .i64 0) (w' := x) ?_ ⟨rfl, rfl⟩
    simp only [execOp, ho, eval_slot, s146]
    go_simp
    all_goals (rw [Int.tmod_eq_emod_of_nonneg (by omega)]; omega)
  · intro hon o a x ho hJ hold hp
    subst hJ
    have s147 : slot a 147 = .int .i64 0 := hp 1 (by decide) rfl
    refine op_run (v := .bool true) (w' := x) ?_ ⟨rfl, rfl⟩
    simp only [execOp, ho, eval_slot, s147]
    go_simp
  · intro hon o a x ho hJ hold hp
    subst hJ
    have s148 : slot a 148 = .bool true := hp 2 (by decide) rfl
    exact fun_move (.inl ho) ((eval_slot _ _).trans s148) rfl
  · intro hon o a x ho hJ hold hp
    subst hJ
    have s12 : slot a 12 = .slice (some ⟨ga, oa, none⟩) n ca := (hold 12 (by decide)).trans o12
    exact fun_move (.inl ho) ((eval_slot _ _).trans s12) rfl
  · intro hon o a x ho hJ hold hp
    subst hJ
    have s18 : slot a 18 = .int .i64 ((2 * j : Nat) : Int) := (hold 18 (by decide)).trans o18
    exact fun_move (.inl ho) ((eval_slot _ _).trans s18) rfl
  · intro hon o a x ho hJ hold hp
    subst hJ
    have s150 : slot a 150 = .slice (some ⟨ga, oa, none⟩) n ca := hp 4 (by decide) rfl
    have s151 : slot a 151 = .int .i64 ((2 * j : Nat) : Int) := hp 5 (by decide) rfl
    refine op_run (v := .pointer (some ⟨ga, oa + 2 * j * 3, none⟩)) (w' := x) ?_ ⟨rfl, rfl⟩
    simp only [execOp, ho, eval_slot, s150, s151]
    go_simp
    rw [if_pos (by omega), show ((2 : Int) * ((j : Nat) : Int)).toNat = 2 * j by omega]
  · intro hon o a x ho hJ hold hp
    subst hJ
    have s152 : slot a 152 = .pointer (some ⟨ga, oa + 2 * j * 3, none⟩) := hp 6 (by decide) rfl
    refine op_run (v := .pointer (some ⟨ga, oa + 2 * j * 3, none⟩)) (w' := x) ?_ ⟨rfl, rfl⟩
    simp only [execOp, ho, eval_slot, s152]
    go_simp
  · intro hon o a x ho hJ hold hp
    subst hJ
    have c0 := c0
    have s153 : slot a 153 = .pointer (some ⟨ga, oa + 2 * j * 3, none⟩) := hp 7 (by decide) rfl
    refine op_run (v := .int .i64 4) (w' := x) ?_ ⟨rfl, rfl⟩
    simp only [execOp, ho, eval_slot, s153]
    go_simp
  · intro hon o a x ho hJ hold hp
    subst hJ
    have s154 : slot a 154 = .int .i64 4 := hp 8 (by decide) rfl
    refine op_run (v := .bool false) (w' := x) ?_ ⟨rfl, rfl⟩
    simp only [execOp, ho, eval_slot, s154]
    go_simp
  · intro hon o a x ho hJ hold hp
    subst hJ
    have s155 : slot a 155 = .bool false := hp 9 (by decide) rfl
    exact fun_move (.inl ho) ((eval_slot _ _).trans s155) rfl
  · intro hon o a x ho hJ hold hp
    subst hJ
    have s12 : slot a 12 = .slice (some ⟨ga, oa, none⟩) n ca := (hold 12 (by decide)).trans o12
    exact fun_move (.inl ho) ((eval_slot _ _).trans s12) rfl
  · intro hon o a x ho hJ hold hp
    subst hJ
    have s18 : slot a 18 = .int .i64 ((2 * j : Nat) : Int) := (hold 18 (by decide)).trans o18
    exact fun_move (.inl ho) ((eval_slot _ _).trans s18) rfl
  · intro hon o a x ho hJ hold hp
    subst hJ
    have s157 : slot a 157 = .slice (some ⟨ga, oa, none⟩) n ca := hp 11 (by decide) rfl
    have s158 : slot a 158 = .int .i64 ((2 * j : Nat) : Int) := hp 12 (by decide) rfl
    refine op_run (v := .pointer (some ⟨ga, oa + 2 * j * 3, none⟩)) (w' := x) ?_ ⟨rfl, rfl⟩
    simp only [execOp, ho, eval_slot, s157, s158]
    go_simp
    rw [if_pos (by omega), show ((2 : Int) * ((j : Nat) : Int)).toNat = 2 * j by omega]
  · intro hon o a x ho hJ hold hp
    subst hJ
    have s159 : slot a 159 = .pointer (some ⟨ga, oa + 2 * j * 3, none⟩) := hp 13 (by decide) rfl
    refine op_run (v := .pointer (some ⟨ga, oa + 2 * j * 3 + 1, none⟩)) (w' := x) ?_ ⟨rfl, rfl⟩
    simp only [execOp, ho, eval_slot, s159]
    go_simp
  · intro hon o a x ho hJ hold hp
    subst hJ
    have c1 := c1
    have s160 : slot a 160 = .pointer (some ⟨ga, oa + 2 * j * 3 + 1, none⟩) := hp 14 (by decide) rfl
    refine op_run (v := .string (bs (t.take 50))) (w' := x) ?_ ⟨rfl, rfl⟩
    simp only [execOp, ho, eval_slot, s160]
    go_simp
  · intro hon o a x ho hJ hold hp
    subst hJ
    have s0 : slot a 0 = .slice (some ⟨gw, ow, none⟩) m cw := (hold 0 (by decide)).trans o0
    exact fun_move (.inl ho) ((eval_slot _ _).trans s0) rfl
  · intro hon o a x ho hJ hold hp
    subst hJ
    have s18 : slot a 18 = .int .i64 ((2 * j : Nat) : Int) := (hold 18 (by decide)).trans o18
    exact fun_move (.inl ho) ((eval_slot _ _).trans s18) rfl
  · intro hon o a x ho hJ hold hp
    subst hJ
    have s163 : slot a 163 = .int .i64 ((2 * j : Nat) : Int) := hp 17 (by decide) rfl
    refine op_run (v := .int .i64 (j : Nat)) (w' := x) ?_ ⟨rfl, rfl⟩
    simp only [execOp, ho, eval_slot, s163]
    go_simp
    all_goals exact IntWalk.i64_in _ (by omega)
  · intro hon o a x ho hJ hold hp
    subst hJ
    have s162 : slot a 162 = .slice (some ⟨gw, ow, none⟩) m cw := hp 16 (by decide) rfl
    have s164 : slot a 164 = .int .i64 (j : Nat) := hp 18 (by decide) rfl
    refine op_run (v := .pointer (some ⟨gw, ow + j, none⟩)) (w' := x) ?_ ⟨rfl, rfl⟩
    simp only [execOp, ho, eval_slot, s162, s164]
    go_simp
    all_goals omega
  · intro hon o a x ho hJ hold hp
    subst hJ
    have cw0 := cw0
    have s165 : slot a 165 = .pointer (some ⟨gw, ow + j, none⟩) := hp 19 (by decide) rfl
    refine op_run (v := .string (bs t)) (w' := x) ?_ ⟨rfl, rfl⟩
    simp only [execOp, ho, eval_slot, s165]
    go_simp
  · intro hon o a x ho hJ hold hp
    subst hJ
    have s166 : slot a 166 = .string (bs t) := hp 20 (by decide) rfl
    have f166 : a.tmps[166]?.getD undef = .string (bs t) := by simpa [slot] using s166
    refine op_enter (f := 18) (args := #[.string (bs t), .int .i64 50]) ?_ (hC x) ?_
    · simp only [execOp, ho]
      simp [resolve, invoke, Act.eval, f166]
      go_simp
    · rintro e x1 ⟨rfl, rfl⟩
      exact ⟨_, rfl, rfl, rfl⟩
  · intro hon o a x ho hJ hold hp
    subst hJ
    have s161 : slot a 161 = .string (bs (t.take 50)) := hp 15 (by decide) rfl
    have s167 : slot a 167 = .string (bs (t.take 50)) := hp 21 (by decide) rfl
    refine op_run (v := .bool false) (w' := x) ?_ ⟨rfl, rfl⟩
    simp only [execOp, ho, eval_slot, s161, s167]
    go_simp
  · intro hon o a x ho hJ hold hp
    subst hJ
    have s156 : slot a 156 = .bool false := hp 10 (by decide) rfl
    exact fun_pickO ho s156 (fun hb => hp 22 (by decide) rfl) rfl
  · intro hon o a x ho hJ hold hp
    subst hJ
    have s149 : slot a 149 = .bool true := hp 3 (by decide) rfl
    exact fun_pick ho s149 (fun hb => hp 23 (by decide) rfl) rfl
def LKFL : List Sp := [
  ⟨.move (.tmp 18), none, 146, []⟩,
  ⟨.binOp .rem 3 (.tmp 146) (.const (.int .i64 2)) 3, none, 147, [0]⟩,
  ⟨.binOp .eql 3 (.tmp 147) (.const (.int .i64 0)) 3, none, 148, [1]⟩,
  ⟨.move (.tmp 148), none, 149, [2]⟩,
  ⟨.move (.tmp 12), some (3, true), 150, [3]⟩,
  ⟨.move (.tmp 18), some (3, true), 151, [3]⟩,
  ⟨.indexAddr 23 (.tmp 150) (.tmp 151), some (3, true), 152, [3, 4, 5]⟩,
  ⟨.fieldAddr 33 (.tmp 152) 0, some (3, true), 153, [3, 6]⟩,
  ⟨.load 3 (.tmp 153), some (3, true), 154, [3, 7]⟩,
  ⟨.binOp .neq 3 (.tmp 154) (.const (.int .i64 4)) 3, some (3, true), 155, [3, 8]⟩,
  ⟨.move (.tmp 155), some (3, true), 156, [3, 9]⟩,
  ⟨.move (.tmp 12), some (10, false), 157, [10]⟩,
  ⟨.move (.tmp 18), some (10, false), 158, [10]⟩,
  ⟨.indexAddr 23 (.tmp 157) (.tmp 158), some (10, false), 159, [10, 11, 12]⟩,
  ⟨.fieldAddr 33 (.tmp 159) 1, some (10, false), 160, [10, 13]⟩,
  ⟨.load 9 (.tmp 160), some (10, false), 161, [10, 14]⟩,
  ⟨.move (.tmp 0), some (10, false), 162, [10]⟩,
  ⟨.move (.tmp 18), some (10, false), 163, [10]⟩,
  ⟨.binOp .quo 3 (.tmp 163) (.const (.int .i64 2)) 3, some (10, false), 164, [10, 17]⟩,
  ⟨.indexAddr 42 (.tmp 162) (.tmp 164), some (10, false), 165, [10, 16, 18]⟩,
  ⟨.load 9 (.tmp 165), some (10, false), 166, [10, 19]⟩,
  ⟨.call { callee := .value (.func 18), args := #[(.tmp 166), (.const (.int .i64 50))], argTypes := #[9, 3] }, some (10, false), 167, [10, 20]⟩,
  ⟨.binOp .neq 9 (.tmp 161) (.tmp 167) 9, some (10, false), 168, [10, 15, 21]⟩,
  ⟨.pick (.tmp 156) (.const (.bool true)) (.tmp 168), some (3, true), 169, [3, 10, 22]⟩,
  ⟨.pick (.tmp 149) (.tmp 169) (.const (.bool false)), none, 170, [3, 23]⟩]
def LKFV (ga oa ca n gw ow cw m j : Nat) (t : List UInt8) : List Value := [
  .int .i64 ((2 * j + 1 : Nat) : Int),
  .int .i64 1,
  .bool false,
  .bool false,
  .slice (some ⟨ga, oa, none⟩) n ca,
  .int .i64 ((2 * j + 1 : Nat) : Int),
  .pointer (some ⟨ga, oa + 2 * j * 3, none⟩),
  .pointer (some ⟨ga, oa + 2 * j * 3, none⟩),
  .int .i64 4,
  .bool false,
  .bool false,
  .slice (some ⟨ga, oa, none⟩) n ca,
  .int .i64 ((2 * j + 1 : Nat) : Int),
  .pointer (some ⟨ga, oa + 2 * j * 3, none⟩),
  .pointer (some ⟨ga, oa + 2 * j * 3 + 1, none⟩),
  .string (bs (t.take 50)),
  .slice (some ⟨gw, ow, none⟩) m cw,
  .int .i64 ((2 * j + 1 : Nat) : Int),
  .int .i64 (j : Nat),
  .pointer (some ⟨gw, ow + j, none⟩),
  .string (bs t),
  .string (bs (t.take 50)),
  .bool false,
  .bool false,
  .bool false]
def LKFO (ga oa ca n gw ow cw m j : Nat) (t : List UInt8) : List Bool := [true, true, true, true, false, false, false, false, false, false, false, false, false, false, false, false, false, false, false, false, false, false, false, false, true]
def LKFK : List Nat := [146, 147, 148, 149, 150, 151, 152, 153, 154, 155, 156, 157, 158, 159, 160, 161, 162, 163, 164, 165, 166, 167, 168, 169, 170]
theorem lkfk_lt : ∀ r ∈ LKFK, r < 172 := by decide
theorem lkf_on (ga oa ca n gw ow cw m j : Nat) (t : List UInt8) : OnL (fun zz => (LKFV ga oa ca n gw ow cw m j t).getD zz undef) (fun zz => (LKFO ga oa ca n gw ow cw m j t).getD zz true) 0 LKFL :=
  ⟨rfl, ⟨rfl, ⟨rfl, ⟨rfl, ⟨.inl ⟨rfl, by decide, _, rfl, rfl⟩, ⟨.inl ⟨rfl, by decide, _, rfl, rfl⟩, ⟨.inl ⟨rfl, by decide, _, rfl, rfl⟩, ⟨.inl ⟨rfl, by decide, _, rfl, rfl⟩, ⟨.inl ⟨rfl, by decide, _, rfl, rfl⟩, ⟨.inl ⟨rfl, by decide, _, rfl, rfl⟩, ⟨.inl ⟨rfl, by decide, _, rfl, rfl⟩, ⟨.inr ⟨rfl, by decide, rfl⟩, ⟨.inr ⟨rfl, by decide, rfl⟩, ⟨.inr ⟨rfl, by decide, rfl⟩, ⟨.inr ⟨rfl, by decide, rfl⟩, ⟨.inr ⟨rfl, by decide, rfl⟩, ⟨.inr ⟨rfl, by decide, rfl⟩, ⟨.inr ⟨rfl, by decide, rfl⟩, ⟨.inr ⟨rfl, by decide, rfl⟩, ⟨.inr ⟨rfl, by decide, rfl⟩, ⟨.inr ⟨rfl, by decide, rfl⟩, ⟨.inr ⟨rfl, by decide, rfl⟩, ⟨.inr ⟨rfl, by decide, rfl⟩, ⟨.inl ⟨rfl, by decide, _, rfl, rfl⟩, ⟨rfl, trivial⟩⟩⟩⟩⟩⟩⟩⟩⟩⟩⟩⟩⟩⟩⟩⟩⟩⟩⟩⟩⟩⟩⟩⟩⟩
set_option maxRecDepth 100000 in
set_option maxHeartbeats 1000000 in
theorem lkf_obl (ga oa ca n gw ow cw m j : Nat) (t : List UInt8) (W : World) (hj : 2 * j < n) (hjm : j < m) (hn : n ≤ 10000) (hm : m ≤ 10000) (Q : Exit → Act → World → Prop) (old : Nat → Value) (o0 : old 0 = .slice (some ⟨gw, ow, none⟩) m cw) (o12 : old 12 = .slice (some ⟨ga, oa, none⟩) n ca) (o18 : old 18 = .int .i64 ((2 * j + 1 : Nat) : Int)) :
    Obl Tryd.prog Q (fun x => x = W) LKFL (fun zz => (LKFV ga oa ca n gw ow cw m j t).getD zz undef) (fun zz => (LKFO ga oa ca n gw ow cw m j t).getD zz true) old LKFK 0 LKFL := by
  refine And.intro ?_ (And.intro ?_ (And.intro ?_ (And.intro ?_ (And.intro ?_ (And.intro ?_ (And.intro ?_ (And.intro ?_ (And.intro ?_ (And.intro ?_ (And.intro ?_ (And.intro ?_ (And.intro ?_ (And.intro ?_ (And.intro ?_ (And.intro ?_ (And.intro ?_ (And.intro ?_ (And.intro ?_ (And.intro ?_ (And.intro ?_ (And.intro ?_ (And.intro ?_ (And.intro ?_ (And.intro ?_ (trivial)))))))))))))))))))))))))
  · intro hon o a x ho hJ hold hp
    subst hJ
    have s18 : slot a 18 = .int .i64 ((2 * j + 1 : Nat) : Int) := (hold 18 (by decide)).trans o18
    exact fun_move (.inl ho) ((eval_slot _ _).trans s18) rfl
  · intro hon o a x ho hJ hold hp
    subst hJ
    have s146 : slot a 146 = .int .i64 ((2 * j + 1 : Nat) : Int) := hp 0 (by decide) rfl
    refine op_run (v := .int .i64 1) (w' := x) ?_ ⟨rfl, rfl⟩
    simp only [execOp, ho, eval_slot, s146]
    go_simp
    all_goals (rw [Int.tmod_eq_emod_of_nonneg (by omega)]; omega)
  · intro hon o a x ho hJ hold hp
    subst hJ
    have s147 : slot a 147 = .int .i64 1 := hp 1 (by decide) rfl
    refine op_run (v := .bool false) (w' := x) ?_ ⟨rfl, rfl⟩
    simp only [execOp, ho, eval_slot, s147]
    go_simp
  · intro hon o a x ho hJ hold hp
    subst hJ
    have s148 : slot a 148 = .bool false := hp 2 (by decide) rfl
    exact fun_move (.inl ho) ((eval_slot _ _).trans s148) rfl
  · intro hon o a x ho hJ hold hp
    exact absurd (show false = true from hon) (by decide)
  · intro hon o a x ho hJ hold hp
    exact absurd (show false = true from hon) (by decide)
  · intro hon o a x ho hJ hold hp
    exact absurd (show false = true from hon) (by decide)
  · intro hon o a x ho hJ hold hp
    exact absurd (show false = true from hon) (by decide)
  · intro hon o a x ho hJ hold hp
    exact absurd (show false = true from hon) (by decide)
  · intro hon o a x ho hJ hold hp
    exact absurd (show false = true from hon) (by decide)
  · intro hon o a x ho hJ hold hp
    exact absurd (show false = true from hon) (by decide)
  · intro hon o a x ho hJ hold hp
    exact absurd (show false = true from hon) (by decide)
  · intro hon o a x ho hJ hold hp
    exact absurd (show false = true from hon) (by decide)
  · intro hon o a x ho hJ hold hp
    exact absurd (show false = true from hon) (by decide)
  · intro hon o a x ho hJ hold hp
    exact absurd (show false = true from hon) (by decide)
  · intro hon o a x ho hJ hold hp
    exact absurd (show false = true from hon) (by decide)
  · intro hon o a x ho hJ hold hp
    exact absurd (show false = true from hon) (by decide)
  · intro hon o a x ho hJ hold hp
    exact absurd (show false = true from hon) (by decide)
  · intro hon o a x ho hJ hold hp
    exact absurd (show false = true from hon) (by decide)
  · intro hon o a x ho hJ hold hp
    exact absurd (show false = true from hon) (by decide)
  · intro hon o a x ho hJ hold hp
    exact absurd (show false = true from hon) (by decide)
  · intro hon o a x ho hJ hold hp
    exact absurd (show false = true from hon) (by decide)
  · intro hon o a x ho hJ hold hp
    exact absurd (show false = true from hon) (by decide)
  · intro hon o a x ho hJ hold hp
    exact absurd (show false = true from hon) (by decide)
  · intro hon o a x ho hJ hold hp
    subst hJ
    have s149 : slot a 149 = .bool false := hp 3 (by decide) rfl
    exact fun_pick (y := false) ho s149 (fun hb => absurd hb (by decide)) rfl
end Go.Proofs.YtkobjbmjefkmgaaDoor
