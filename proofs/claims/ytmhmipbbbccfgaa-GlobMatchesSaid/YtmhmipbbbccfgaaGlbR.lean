/- GlobMatches: the drawn region of its round by the rule of Fun, an operation, a value. gen_globr.py writes it. -/
import Derived.Test.YtmhmipbbbccfgaaGlbQ
import Derived.Test.YtmhmipbbbccfgaaGlbA
import Derived.Test.YtmhmipbbbccfgaaGlbW
namespace Go.Proofs.Ytmhmipbbbccfgaa
open Go.ChangeShapes Go.WideShapes Go.ChangeAt Go.RowKit K G13
set_option linter.unusedVariables false

theorem fun_pickT {Q : Exit → Act → World → Prop} {J : World → Prop} {o : Oper} {a : Act} {w : World} {c x : Nat} {b y : Bool} (k : o.op = .pick (.tmp c) (.const (.bool true)) (.tmp x)) (hc : slot a c = .bool b) (hx : b = false → slot a x = .bool y) (hJ : J w) : o.wp Try.prog a w (fun a' w' => a' = a.put o.dst (.bool (b || y)) ∧ J w') Q := by
  refine op_run (v := .bool (b || y)) (w' := w) ?_ ⟨rfl, hJ⟩
  simp only [execOp, k, eval_slot, hc]
  cases b
  · simp [asBool, hx rfl]
  · simp [asBool, Act.eval]
theorem run_ldS (w : World) (b f : Nat) (n : ByteArray) (h : w.cell? ⟨b, f, none⟩ = some (.string n)) : (Instr.loadAt 9 (.pointer (some ⟨b, f, none⟩))).run Try.prog w = .ok (.string n) w := by go_simp
def GML : List Sp := [⟨.move (.tmp 10), none, 78, []⟩,
  ⟨.move (.tmp 12), none, 79, []⟩,
  ⟨.binOp .neq 4 (.tmp 78) (.tmp 79) 4, none, 80, [0, 1]⟩,
  ⟨.move (.tmp 80), none, 81, [2]⟩,
  ⟨.move (.tmp 11), some (3, false), 82, [3]⟩,
  ⟨.move (.tmp 13), some (3, false), 83, [3]⟩,
  ⟨.binOp .neq 24 (.tmp 82) (.tmp 83) 24, some (3, false), 84, [3, 4, 5]⟩,
  ⟨.pick (.tmp 81) (.const (.bool true)) (.tmp 84), none, 85, [3, 6]⟩,
  ⟨.move (.tmp 85), none, 86, [7]⟩,
  ⟨.move (.tmp 13), some (8, false), 87, [8]⟩,
  ⟨.binOp .eql 24 (.tmp 87) (.const (.int .i64 0)) 24, some (8, false), 88, [8, 9]⟩,
  ⟨.move (.tmp 88), some (8, false), 89, [8, 10]⟩,
  ⟨.move (.tmp 5), some (11, true), 90, [11]⟩,
  ⟨.move (.tmp 1), some (11, true), 91, [11]⟩,
  ⟨.move (.tmp 9), some (11, true), 92, [11]⟩,
  ⟨.indexAddr 22 (.tmp 91) (.tmp 92), some (11, true), 93, [11, 13, 14]⟩,
  ⟨.load 9 (.tmp 93), some (11, true), 94, [11, 15]⟩,
  ⟨.call { callee := .value (.func 12), args := #[.tmp 90, .tmp 94], argTypes := #[23, 9] }, some (11, true), 95, [11, 12, 16]⟩,
  ⟨.move (.tmp 12), some (11, true), 96, [11]⟩,
  ⟨.binOp .neq 4 (.tmp 95) (.tmp 96) 4, some (11, true), 97, [11, 17, 18]⟩,
  ⟨.pick (.tmp 89) (.tmp 97) (.const (.bool false)), some (8, false), 98, [8, 11, 19]⟩,
  ⟨.pick (.tmp 86) (.const (.bool true)) (.tmp 98), none, 99, [8, 20]⟩,
  ⟨.move (.tmp 99), none, 100, [21]⟩,
  ⟨.move (.tmp 1), some (22, false), 101, [22]⟩,
  ⟨.move (.tmp 9), some (22, false), 102, [22]⟩,
  ⟨.indexAddr 22 (.tmp 101) (.tmp 102), some (22, false), 103, [22, 23, 24]⟩,
  ⟨.load 9 (.tmp 103), some (22, false), 104, [22, 25]⟩,
  ⟨.call { callee := .value (.func 13), args := #[.tmp 104], argTypes := #[9] }, some (22, false), 105, [22, 26]⟩,
  ⟨.move (.tmp 1), some (22, false), 106, [22]⟩,
  ⟨.move (.tmp 9), some (22, false), 107, [22]⟩,
  ⟨.indexAddr 22 (.tmp 106) (.tmp 107), some (22, false), 108, [22, 28, 29]⟩,
  ⟨.load 9 (.tmp 108), some (22, false), 109, [22, 30]⟩,
  ⟨.call { callee := .value (.func 14), args := #[.tmp 109], argTypes := #[9] }, some (22, false), 110, [22, 31]⟩,
  ⟨.binOp .neq 9 (.tmp 105) (.tmp 110) 9, some (22, false), 111, [22, 27, 32]⟩,
  ⟨.pick (.tmp 100) (.const (.bool true)) (.tmp 111), none, 112, [22, 33]⟩]
def GMV (lb lo i n len cap : Nat) (PV : Value) (s es : List UInt8) (m b0 : Bool) : List Value := [.bool m,
  .bool m,
  .bool false,
  .bool false,
  .int .i64 (n : Nat),
  .int .i64 (n : Nat),
  .bool false,
  .bool (false || false),
  .bool (false || false),
  .int .i64 (n : Nat),
  .bool b0,
  .bool b0,
  PV,
  .slice (some ⟨lb, lo, none⟩) len cap,
  .int .i64 (i : Nat),
  .pointer (some ⟨lb, lo + i, none⟩),
  .string (bs s),
  .bool m,
  .bool m,
  .bool false,
  .bool (b0 && false),
  .bool (false || (b0 && false)),
  .bool (false || (b0 && false)),
  .slice (some ⟨lb, lo, none⟩) len cap,
  .int .i64 (i : Nat),
  .pointer (some ⟨lb, lo + i, none⟩),
  .string (bs s),
  .string (bs es),
  .slice (some ⟨lb, lo, none⟩) len cap,
  .int .i64 (i : Nat),
  .pointer (some ⟨lb, lo + i, none⟩),
  .string (bs s),
  .string (bs es),
  .bool false,
  .bool ((false || (b0 && false)) || false)]
def GMO (b0 : Bool) : List Bool := [true, true, true, true, true, true, true, true, true, true, true, true, b0, b0, b0, b0, b0, b0, b0, b0, true, true, true, (!(false || (b0 && false))), (!(false || (b0 && false))), (!(false || (b0 && false))), (!(false || (b0 && false))), (!(false || (b0 && false))), (!(false || (b0 && false))), (!(false || (b0 && false))), (!(false || (b0 && false))), (!(false || (b0 && false))), (!(false || (b0 && false))), (!(false || (b0 && false))), true]
def GMK : List Nat := [78, 79, 80, 81, 82, 83, 84, 85, 86, 87, 88, 89, 90, 91, 92, 93, 94, 95, 96, 97, 98, 99, 100, 101, 102, 103, 104, 105, 106, 107, 108, 109, 110, 111, 112]
theorem gmk_lt : ∀ r ∈ GMK, r < 139 := by decide
theorem gm_on (lb lo i n len cap : Nat) (PV : Value) (s es : List UInt8) (m b0 : Bool) : OnL (fun j => (GMV lb lo i n len cap PV s es m b0).getD j undef) (fun j => (GMO b0).getD j true) 0 GML :=
  ⟨rfl, ⟨rfl, ⟨rfl, ⟨rfl, ⟨.inl ⟨rfl, by decide, _, rfl, rfl⟩, ⟨.inl ⟨rfl, by decide, _, rfl, rfl⟩, ⟨.inl ⟨rfl, by decide, _, rfl, rfl⟩, ⟨rfl, ⟨rfl, ⟨.inl ⟨rfl, by decide, _, rfl, rfl⟩, ⟨.inl ⟨rfl, by decide, _, rfl, rfl⟩, ⟨.inl ⟨rfl, by decide, _, rfl, rfl⟩, ⟨.inl ⟨rfl, by decide, _, rfl, rfl⟩, ⟨.inl ⟨rfl, by decide, _, rfl, rfl⟩, ⟨.inl ⟨rfl, by decide, _, rfl, rfl⟩, ⟨.inl ⟨rfl, by decide, _, rfl, rfl⟩, ⟨.inl ⟨rfl, by decide, _, rfl, rfl⟩, ⟨.inl ⟨rfl, by decide, _, rfl, rfl⟩, ⟨.inl ⟨rfl, by decide, _, rfl, rfl⟩, ⟨.inl ⟨rfl, by decide, _, rfl, rfl⟩, ⟨.inl ⟨rfl, by decide, _, rfl, rfl⟩, ⟨rfl, ⟨rfl, ⟨.inl ⟨rfl, by decide, _, rfl, rfl⟩, ⟨.inl ⟨rfl, by decide, _, rfl, rfl⟩, ⟨.inl ⟨rfl, by decide, _, rfl, rfl⟩, ⟨.inl ⟨rfl, by decide, _, rfl, rfl⟩, ⟨.inl ⟨rfl, by decide, _, rfl, rfl⟩, ⟨.inl ⟨rfl, by decide, _, rfl, rfl⟩, ⟨.inl ⟨rfl, by decide, _, rfl, rfl⟩, ⟨.inl ⟨rfl, by decide, _, rfl, rfl⟩, ⟨.inl ⟨rfl, by decide, _, rfl, rfl⟩, ⟨.inl ⟨rfl, by decide, _, rfl, rfl⟩, ⟨.inl ⟨rfl, by decide, _, rfl, rfl⟩, ⟨rfl, trivial⟩⟩⟩⟩⟩⟩⟩⟩⟩⟩⟩⟩⟩⟩⟩⟩⟩⟩⟩⟩⟩⟩⟩⟩⟩⟩⟩⟩⟩⟩⟩⟩⟩⟩⟩
set_option maxRecDepth 100000 in
set_option maxHeartbeats 1000000 in
theorem gm_obl (lb lo i n len cap : Nat) (PV : Value) (s es : List UInt8) (m b0 : Bool) (W : World) (Q : Exit → Act → World → Prop) (old : Nat → Value)
    (hi : i < len)
    (hc : ∀ x, Below W.heap.size W x → x.cell? ⟨lb, lo + i, none⟩ = some (.string (bs s)))
    (hM : b0 = true → ∀ x, Below W.heap.size W x → Calls Try.prog 12 #[PV, .string (bs s)] x fun e w' => e = .returned (.bool m) ∧ Below x.heap.size x w')
    (hE1 : ∀ x, Below W.heap.size W x → Calls Try.prog 13 #[.string (bs s)] x fun e w' => e = .returned (.string (bs es)) ∧ Below x.heap.size x w')
    (hE2 : ∀ x, Below W.heap.size W x → Calls Try.prog 14 #[.string (bs s)] x fun e w' => e = .returned (.string (bs es)) ∧ Below x.heap.size x w')
    (hb : (((n : Nat) : Int) == 0) = b0)
    (o10 : old 10 = .bool m) (o12 : old 12 = .bool m) (o11 : old 11 = .int .i64 (n : Nat)) (o13 : old 13 = .int .i64 (n : Nat)) (o5 : old 5 = PV) (o1 : old 1 = .slice (some ⟨lb, lo, none⟩) len cap) (o9 : old 9 = .int .i64 (i : Nat)) :
    Obl Try.prog Q (fun x => Below W.heap.size W x) GML (fun j => (GMV lb lo i n len cap PV s es m b0).getD j undef) (fun j => (GMO b0).getD j true) old GMK 0 GML := by
  refine And.intro ?_ (And.intro ?_ (And.intro ?_ (And.intro ?_ (And.intro ?_ (And.intro ?_ (And.intro ?_ (And.intro ?_ (And.intro ?_ (And.intro ?_ (And.intro ?_ (And.intro ?_ (And.intro ?_ (And.intro ?_ (And.intro ?_ (And.intro ?_ (And.intro ?_ (And.intro ?_ (And.intro ?_ (And.intro ?_ (And.intro ?_ (And.intro ?_ (And.intro ?_ (And.intro ?_ (And.intro ?_ (And.intro ?_ (And.intro ?_ (And.intro ?_ (And.intro ?_ (And.intro ?_ (And.intro ?_ (And.intro ?_ (And.intro ?_ (And.intro ?_ (And.intro ?_ (trivial)))))))))))))))))))))))))))))))))))
  · intro hon o a x ho hJ hold hp
    exact fun_move (.inl ho) ((eval_slot _ _).trans ((hold 10 (by decide)).trans o10)) hJ
  · intro hon o a x ho hJ hold hp
    exact fun_move (.inl ho) ((eval_slot _ _).trans ((hold 12 (by decide)).trans o12)) hJ
  · intro hon o a x ho hJ hold hp
    have s0 : slot a 78 = .bool m := hp 0 (by decide) rfl
    have s1 : slot a 79 = .bool m := hp 1 (by decide) rfl
    refine op_run (v := .bool false) (w' := x) ?_ ⟨rfl, hJ⟩
    simp only [execOp, ho, eval_slot, s0, s1]
    go_simp
  · intro hon o a x ho hJ hold hp
    have s0 : slot a 80 = .bool false := hp 2 (by decide) rfl
    exact fun_move (.inl ho) ((eval_slot _ _).trans s0) hJ
  · intro hon o a x ho hJ hold hp
    exact fun_move (.inl ho) ((eval_slot _ _).trans ((hold 11 (by decide)).trans o11)) hJ
  · intro hon o a x ho hJ hold hp
    exact fun_move (.inl ho) ((eval_slot _ _).trans ((hold 13 (by decide)).trans o13)) hJ
  · intro hon o a x ho hJ hold hp
    have s0 : slot a 82 = .int .i64 (n : Nat) := hp 4 (by decide) rfl
    have s1 : slot a 83 = .int .i64 (n : Nat) := hp 5 (by decide) rfl
    refine op_run (v := .bool false) (w' := x) ?_ ⟨rfl, hJ⟩
    simp only [execOp, ho, eval_slot, s0, s1]
    go_simp
  · intro hon o a x ho hJ hold hp
    have s0 : slot a 81 = .bool false := hp 3 (by decide) rfl
    exact fun_pickT ho s0 (fun hb => hp 6 (by decide) rfl) hJ
  · intro hon o a x ho hJ hold hp
    have s0 : slot a 85 = .bool (false || false) := hp 7 (by decide) rfl
    exact fun_move (.inl ho) ((eval_slot _ _).trans s0) hJ
  · intro hon o a x ho hJ hold hp
    exact fun_move (.inl ho) ((eval_slot _ _).trans ((hold 13 (by decide)).trans o13)) hJ
  · intro hon o a x ho hJ hold hp
    have s0 : slot a 87 = .int .i64 (n : Nat) := hp 9 (by decide) rfl
    refine op_run (v := .bool b0) (w' := x) ?_ ⟨rfl, hJ⟩
    simp only [execOp, ho, eval_slot, s0]
    go_simp
  · intro hon o a x ho hJ hold hp
    have s0 : slot a 88 = .bool b0 := hp 10 (by decide) rfl
    exact fun_move (.inl ho) ((eval_slot _ _).trans s0) hJ
  · intro hon o a x ho hJ hold hp
    exact fun_move (.inl ho) ((eval_slot _ _).trans ((hold 5 (by decide)).trans o5)) hJ
  · intro hon o a x ho hJ hold hp
    exact fun_move (.inl ho) ((eval_slot _ _).trans ((hold 1 (by decide)).trans o1)) hJ
  · intro hon o a x ho hJ hold hp
    exact fun_move (.inl ho) ((eval_slot _ _).trans ((hold 9 (by decide)).trans o9)) hJ
  · intro hon o a x ho hJ hold hp
    have s0 : slot a 91 = .slice (some ⟨lb, lo, none⟩) len cap := hp 13 (by decide) hon
    have s1 : slot a 92 = .int .i64 (i : Nat) := hp 14 (by decide) hon
    refine op_run (v := .pointer (some ⟨lb, lo + i, none⟩)) (w' := x) ?_ ⟨rfl, hJ⟩
    simp only [execOp, ho, eval_slot, s0, s1]
    go_simp
  · intro hon o a x ho hJ hold hp
    have s0 : slot a 93 = .pointer (some ⟨lb, lo + i, none⟩) := hp 15 (by decide) hon
    exact fun_load ho s0 (run_ldS x _ _ _ (hc x hJ)) hJ
  · intro hon o a x ho hJ hold hp
    have s0 : slot a 90 = PV := hp 12 (by decide) hon
    have s1 : slot a 94 = .string (bs s) := hp 16 (by decide) hon
    have f0 : a.tmps[90]?.getD undef = PV := by simpa [slot] using s0
    have f1 : a.tmps[94]?.getD undef = .string (bs s) := by simpa [slot] using s1
    refine op_enter (f := 12) (args := #[PV, .string (bs s)]) ?_ (hM hon x hJ) ?_
    · simp only [execOp, ho]
      simp [resolve, invoke, Act.eval, f0, f1]
      go_simp
    · rintro e x1 ⟨rfl, k⟩
      exact ⟨_, rfl, rfl, hJ.trans (k.mono hJ.size)⟩
  · intro hon o a x ho hJ hold hp
    exact fun_move (.inl ho) ((eval_slot _ _).trans ((hold 12 (by decide)).trans o12)) hJ
  · intro hon o a x ho hJ hold hp
    have s0 : slot a 95 = .bool m := hp 17 (by decide) hon
    have s1 : slot a 96 = .bool m := hp 18 (by decide) hon
    refine op_run (v := .bool false) (w' := x) ?_ ⟨rfl, hJ⟩
    simp only [execOp, ho, eval_slot, s0, s1]
    go_simp
  · intro hon o a x ho hJ hold hp
    have s0 : slot a 89 = .bool b0 := hp 11 (by decide) rfl
    exact fun_pick ho s0 (fun hb => hp 19 (by decide) hb) hJ
  · intro hon o a x ho hJ hold hp
    have s0 : slot a 86 = .bool (false || false) := hp 8 (by decide) rfl
    exact fun_pickT ho s0 (fun hb => hp 20 (by decide) rfl) hJ
  · intro hon o a x ho hJ hold hp
    have s0 : slot a 99 = .bool (false || (b0 && false)) := hp 21 (by decide) rfl
    exact fun_move (.inl ho) ((eval_slot _ _).trans s0) hJ
  · intro hon o a x ho hJ hold hp
    exact fun_move (.inl ho) ((eval_slot _ _).trans ((hold 1 (by decide)).trans o1)) hJ
  · intro hon o a x ho hJ hold hp
    exact fun_move (.inl ho) ((eval_slot _ _).trans ((hold 9 (by decide)).trans o9)) hJ
  · intro hon o a x ho hJ hold hp
    have s0 : slot a 101 = .slice (some ⟨lb, lo, none⟩) len cap := hp 23 (by decide) hon
    have s1 : slot a 102 = .int .i64 (i : Nat) := hp 24 (by decide) hon
    refine op_run (v := .pointer (some ⟨lb, lo + i, none⟩)) (w' := x) ?_ ⟨rfl, hJ⟩
    simp only [execOp, ho, eval_slot, s0, s1]
    go_simp
  · intro hon o a x ho hJ hold hp
    have s0 : slot a 103 = .pointer (some ⟨lb, lo + i, none⟩) := hp 25 (by decide) hon
    exact fun_load ho s0 (run_ldS x _ _ _ (hc x hJ)) hJ
  · intro hon o a x ho hJ hold hp
    have s0 : slot a 104 = .string (bs s) := hp 26 (by decide) hon
    have f0 : a.tmps[104]?.getD undef = .string (bs s) := by simpa [slot] using s0
    refine op_enter (f := 13) (args := #[.string (bs s)]) ?_ (hE1 x hJ) ?_
    · simp only [execOp, ho]
      simp [resolve, invoke, Act.eval, f0]
      go_simp
    · rintro e x1 ⟨rfl, k⟩
      exact ⟨_, rfl, rfl, hJ.trans (k.mono hJ.size)⟩
  · intro hon o a x ho hJ hold hp
    exact fun_move (.inl ho) ((eval_slot _ _).trans ((hold 1 (by decide)).trans o1)) hJ
  · intro hon o a x ho hJ hold hp
    exact fun_move (.inl ho) ((eval_slot _ _).trans ((hold 9 (by decide)).trans o9)) hJ
  · intro hon o a x ho hJ hold hp
    have s0 : slot a 106 = .slice (some ⟨lb, lo, none⟩) len cap := hp 28 (by decide) hon
    have s1 : slot a 107 = .int .i64 (i : Nat) := hp 29 (by decide) hon
    refine op_run (v := .pointer (some ⟨lb, lo + i, none⟩)) (w' := x) ?_ ⟨rfl, hJ⟩
    simp only [execOp, ho, eval_slot, s0, s1]
    go_simp
  · intro hon o a x ho hJ hold hp
    have s0 : slot a 108 = .pointer (some ⟨lb, lo + i, none⟩) := hp 30 (by decide) hon
    exact fun_load ho s0 (run_ldS x _ _ _ (hc x hJ)) hJ
  · intro hon o a x ho hJ hold hp
    have s0 : slot a 109 = .string (bs s) := hp 31 (by decide) hon
    have f0 : a.tmps[109]?.getD undef = .string (bs s) := by simpa [slot] using s0
    refine op_enter (f := 14) (args := #[.string (bs s)]) ?_ (hE2 x hJ) ?_
    · simp only [execOp, ho]
      simp [resolve, invoke, Act.eval, f0]
      go_simp
    · rintro e x1 ⟨rfl, k⟩
      exact ⟨_, rfl, rfl, hJ.trans (k.mono hJ.size)⟩
  · intro hon o a x ho hJ hold hp
    have s0 : slot a 105 = .string (bs es) := hp 27 (by decide) hon
    have s1 : slot a 110 = .string (bs es) := hp 32 (by decide) hon
    refine op_run (v := .bool false) (w' := x) ?_ ⟨rfl, hJ⟩
    simp only [execOp, ho, eval_slot, s0, s1]
    go_simp
  · intro hon o a x ho hJ hold hp
    have s0 : slot a 100 = .bool (false || (b0 && false)) := hp 22 (by decide) rfl
    exact fun_pickT ho s0 (fun hb => hp 33 (by decide) (by show (!_) = true; rw [hb]; rfl)) hJ
end Go.Proofs.Ytmhmipbbbccfgaa
