/- Texts on the program and on the document, joined: SyqF. -/
import Derived.Test.YtonippapkmmkeaaDoorMa23
import Derived.Test.YtonippapkmmkeaaDoorMa27
import Derived.Test.YtonippapkmmkeaaDoorMa28
import Derived.Laws.StructEq
import Derived.ChangeKeysEq
/- The program's Same of messages, walked: its region by the rule of Fun, an operation, a value. gen_syqf.py writes it. -/
namespace Go.Proofs.YtonippapkmmkeaaDoor
open Go.ChangeShapes Go.WideShapes Go.ChangeAt Go.RowKit K Q10 S11
set_option linter.unusedVariables false

theorem run_equal_names (h a p i h' a' p' i' : List UInt8) (w : World) : (Op.equalIn 10000 36 (.agg #[.string (bs h), .string (bs a), .string (bs p), .string (bs i)]) (.agg #[.string (bs h'), .string (bs a'), .string (bs p'), .string (bs i')])).run Tryd.prog w = .ok ((h == h') && ((a == a') && ((p == p') && (i == i')))) w := by
  obtain ⟨j, hj, hj1⟩ := (show ∃ j, Tryd.prog.info? 9 = some j ∧ j.size = 1 by
    obtain ⟨j, h1, h2⟩ := Option.map_eq_some_iff.1 (show (Tryd.prog.info? 9).map (·.size) = some 1 by kernel_rfl)
    exact ⟨j, h1, h2⟩)
  rw [run_equalIn_array w 9999 _ _ Tryd.underlying36 hj]
  have hc : Tryd.prog.cellsOf 9 = 1 := by kernel_rfl
  rw [hc]
  simp [go_sem, Op.eqItems, List.range, List.range.loop, Tryd.underlying9]
  by_cases h1 : h = h'
  · by_cases h2 : a = a'
    · by_cases h3 : p = p'
      · by_cases h4 : i = i'
        · simp [h1, h2, h3, h4]
        · simp [h1, h2, h3, h4]
      · simp [h1, h2, h3]
    · simp [h1, h2]
  · simp [h1]
theorem run_fieldL0 (w : World) (b : Nat) : (Instr.fieldAt 24 (.pointer (some ⟨b, 0, none⟩)) 0).run Tryd.prog w = .ok (.pointer (some ⟨b, 0, none⟩)) w := by go_simp
theorem run_fieldL1 (w : World) (b : Nat) : (Instr.fieldAt 24 (.pointer (some ⟨b, 0, none⟩)) 1).run Tryd.prog w = .ok (.pointer (some ⟨b, 1, none⟩)) w := by go_simp
theorem run_fieldL2 (w : World) (b : Nat) : (Instr.fieldAt 24 (.pointer (some ⟨b, 0, none⟩)) 2).run Tryd.prog w = .ok (.pointer (some ⟨b, 2, none⟩)) w := by go_simp
theorem run_fieldL7 (w : World) (b : Nat) : (Instr.fieldAt 24 (.pointer (some ⟨b, 0, none⟩)) 7).run Tryd.prog w = .ok (.pointer (some ⟨b, 7, none⟩)) w := by go_simp
theorem run_fieldL8 (w : World) (b : Nat) : (Instr.fieldAt 24 (.pointer (some ⟨b, 0, none⟩)) 8).run Tryd.prog w = .ok (.pointer (some ⟨b, 8, none⟩)) w := by go_simp
theorem run_fieldL9 (w : World) (b : Nat) : (Instr.fieldAt 24 (.pointer (some ⟨b, 0, none⟩)) 9).run Tryd.prog w = .ok (.pointer (some ⟨b, 9, none⟩)) w := by go_simp
theorem run_loadLI (w : World) (b f : Nat) (n : Int) (h : w.cell? ⟨b, f, none⟩ = some (.int .i64 n)) : (Instr.loadAt 3 (.pointer (some ⟨b, f, none⟩))).run Tryd.prog w = .ok (.int .i64 n) w := by go_simp
theorem run_loadLB (w : World) (b f : Nat) (n : Bool) (h : w.cell? ⟨b, f, none⟩ = some (.bool n)) : (Instr.loadAt 4 (.pointer (some ⟨b, f, none⟩))).run Tryd.prog w = .ok (.bool n) w := by go_simp
theorem run_loadLS (w : World) (b f : Nat) (n : ByteArray) (h : w.cell? ⟨b, f, none⟩ = some (.string n)) : (Instr.loadAt 9 (.pointer (some ⟨b, f, none⟩))).run Tryd.prog w = .ok (.string n) w := by go_simp
theorem run_loadLE (w : World) (b f : Nat) (n : Option Addr) (m k : Nat) (h : w.cell? ⟨b, f, none⟩ = some (.slice n m k)) : (Instr.loadAt 22 (.pointer (some ⟨b, f, none⟩))).run Tryd.prog w = .ok (.slice n m k) w := by go_simp
theorem run_loadL (w : World) (b : Nat) (t : Lg) (ao : Option Addr) (ca : Nat) (h : Lq w b t ao ca) : (Instr.loadAt 24 (.pointer (some ⟨b, 0, none⟩))).run Tryd.prog w = .ok (.agg #[.int .i64 t.f, .int .i64 t.v, .int .i64 t.t, .string (bs t.h), .string (bs t.a), .string (bs t.p), .string (bs t.i), .slice ao t.d.length ca, .bool t.b, .string (bs t.x)]) w := by
  obtain ⟨y0, y1, y2, y3, y4, y5, y6, y7, y8, y9⟩ := h.cells
  go_simp
def SAML : List Sp := [⟨.fieldAddr 24 (.tmp 2) 0, none, 5, []⟩,
  ⟨.load 3 (.tmp 5), none, 6, [0]⟩,
  ⟨.fieldAddr 24 (.tmp 3) 0, none, 7, []⟩,
  ⟨.load 3 (.tmp 7), none, 8, [2]⟩,
  ⟨.binOp .eql 3 (.tmp 6) (.tmp 8) 3, none, 9, [1, 3]⟩,
  ⟨.move (.tmp 9), none, 10, [4]⟩,
  ⟨.fieldAddr 24 (.tmp 2) 1, some (5, true), 11, [5]⟩,
  ⟨.load 3 (.tmp 11), some (5, true), 12, [5, 6]⟩,
  ⟨.fieldAddr 24 (.tmp 3) 1, some (5, true), 13, [5]⟩,
  ⟨.load 3 (.tmp 13), some (5, true), 14, [5, 8]⟩,
  ⟨.binOp .eql 3 (.tmp 12) (.tmp 14) 3, some (5, true), 15, [5, 7, 9]⟩,
  ⟨.pick (.tmp 10) (.tmp 15) (.const (.bool false)), none, 16, [5, 10]⟩,
  ⟨.move (.tmp 16), none, 17, [11]⟩,
  ⟨.fieldAddr 24 (.tmp 2) 2, some (12, true), 18, [12]⟩,
  ⟨.load 3 (.tmp 18), some (12, true), 19, [12, 13]⟩,
  ⟨.fieldAddr 24 (.tmp 3) 2, some (12, true), 20, [12]⟩,
  ⟨.load 3 (.tmp 20), some (12, true), 21, [12, 15]⟩,
  ⟨.binOp .eql 3 (.tmp 19) (.tmp 21) 3, some (12, true), 22, [12, 14, 16]⟩,
  ⟨.pick (.tmp 17) (.tmp 22) (.const (.bool false)), none, 23, [12, 17]⟩,
  ⟨.move (.tmp 23), none, 24, [18]⟩,
  ⟨.load 24 (.tmp 2), some (19, true), 25, [19]⟩,
  ⟨.call { callee := .value (.func 9), args := #[.tmp 25], argTypes := #[24] }, some (19, true), 26, [19, 20]⟩,
  ⟨.load 24 (.tmp 3), some (19, true), 27, [19]⟩,
  ⟨.call { callee := .value (.func 9), args := #[.tmp 27], argTypes := #[24] }, some (19, true), 28, [19, 22]⟩,
  ⟨.binOp .eql 36 (.tmp 26) (.tmp 28) 36, some (19, true), 29, [19, 21, 23]⟩,
  ⟨.pick (.tmp 24) (.tmp 29) (.const (.bool false)), none, 30, [19, 24]⟩,
  ⟨.move (.tmp 30), none, 31, [25]⟩,
  ⟨.fieldAddr 24 (.tmp 2) 7, some (26, true), 32, [26]⟩,
  ⟨.load 22 (.tmp 32), some (26, true), 33, [26, 27]⟩,
  ⟨.fieldAddr 24 (.tmp 3) 7, some (26, true), 34, [26]⟩,
  ⟨.load 22 (.tmp 34), some (26, true), 35, [26, 29]⟩,
  ⟨.call { callee := .value (.func 10), args := #[.tmp 33, .tmp 35], argTypes := #[22, 22] }, some (26, true), 36, [26, 28, 30]⟩,
  ⟨.pick (.tmp 31) (.tmp 36) (.const (.bool false)), none, 37, [26, 31]⟩,
  ⟨.move (.tmp 37), none, 38, [32]⟩,
  ⟨.fieldAddr 24 (.tmp 2) 8, some (33, true), 39, [33]⟩,
  ⟨.load 4 (.tmp 39), some (33, true), 40, [33, 34]⟩,
  ⟨.fieldAddr 24 (.tmp 3) 8, some (33, true), 41, [33]⟩,
  ⟨.load 4 (.tmp 41), some (33, true), 42, [33, 36]⟩,
  ⟨.binOp .eql 4 (.tmp 40) (.tmp 42) 4, some (33, true), 43, [33, 35, 37]⟩,
  ⟨.pick (.tmp 38) (.tmp 43) (.const (.bool false)), none, 44, [33, 38]⟩,
  ⟨.move (.tmp 44), none, 45, [39]⟩,
  ⟨.fieldAddr 24 (.tmp 2) 9, some (40, true), 46, [40]⟩,
  ⟨.load 9 (.tmp 46), some (40, true), 47, [40, 41]⟩,
  ⟨.fieldAddr 24 (.tmp 3) 9, some (40, true), 48, [40]⟩,
  ⟨.load 9 (.tmp 48), some (40, true), 49, [40, 43]⟩,
  ⟨.binOp .eql 9 (.tmp 47) (.tmp 49) 9, some (40, true), 50, [40, 42, 44]⟩,
  ⟨.pick (.tmp 45) (.tmp 50) (.const (.bool false)), none, 51, [40, 45]⟩,
  ⟨.assign (.tmp 51), none, 4, [46]⟩]
def SAMV (B : Nat) (t u : Lg) (ao bo : Option Addr) (ca cb : Nat) (e0 e1 e2 e3 e4 e5 e6 : Bool) : List Value := [.pointer (some ⟨B, 0, none⟩),
  .int .i64 t.f,
  .pointer (some ⟨B + 1, 0, none⟩),
  .int .i64 u.f,
  .bool e0,
  .bool e0,
  .pointer (some ⟨B, 1, none⟩),
  .int .i64 t.v,
  .pointer (some ⟨B + 1, 1, none⟩),
  .int .i64 u.v,
  .bool e1,
  .bool (e0 && e1),
  .bool (e0 && e1),
  .pointer (some ⟨B, 2, none⟩),
  .int .i64 t.t,
  .pointer (some ⟨B + 1, 2, none⟩),
  .int .i64 u.t,
  .bool e2,
  .bool ((e0 && e1) && e2),
  .bool ((e0 && e1) && e2),
  .agg #[.int .i64 t.f, .int .i64 t.v, .int .i64 t.t, .string (bs t.h), .string (bs t.a), .string (bs t.p), .string (bs t.i), .slice ao t.d.length ca, .bool t.b, .string (bs t.x)],
  .agg #[.string (bs t.h), .string (bs t.a), .string (bs t.p), .string (bs t.i)],
  .agg #[.int .i64 u.f, .int .i64 u.v, .int .i64 u.t, .string (bs u.h), .string (bs u.a), .string (bs u.p), .string (bs u.i), .slice bo u.d.length cb, .bool u.b, .string (bs u.x)],
  .agg #[.string (bs u.h), .string (bs u.a), .string (bs u.p), .string (bs u.i)],
  .bool e3,
  .bool (((e0 && e1) && e2) && e3),
  .bool (((e0 && e1) && e2) && e3),
  .pointer (some ⟨B, 7, none⟩),
  .slice ao t.d.length ca,
  .pointer (some ⟨B + 1, 7, none⟩),
  .slice bo u.d.length cb,
  .bool e4,
  .bool ((((e0 && e1) && e2) && e3) && e4),
  .bool ((((e0 && e1) && e2) && e3) && e4),
  .pointer (some ⟨B, 8, none⟩),
  .bool t.b,
  .pointer (some ⟨B + 1, 8, none⟩),
  .bool u.b,
  .bool e5,
  .bool (((((e0 && e1) && e2) && e3) && e4) && e5),
  .bool (((((e0 && e1) && e2) && e3) && e4) && e5),
  .pointer (some ⟨B, 9, none⟩),
  .string (bs t.x),
  .pointer (some ⟨B + 1, 9, none⟩),
  .string (bs u.x),
  .bool e6,
  .bool ((((((e0 && e1) && e2) && e3) && e4) && e5) && e6),
  .bool ((((((e0 && e1) && e2) && e3) && e4) && e5) && e6)]
def SAMO (e0 e1 e2 e3 e4 e5 : Bool) : List Bool := [true, true, true, true, true, true, e0, e0, e0, e0, e0, true, true, (e0 && e1), (e0 && e1), (e0 && e1), (e0 && e1), (e0 && e1), true, true, ((e0 && e1) && e2), ((e0 && e1) && e2), ((e0 && e1) && e2), ((e0 && e1) && e2), ((e0 && e1) && e2), true, true, (((e0 && e1) && e2) && e3), (((e0 && e1) && e2) && e3), (((e0 && e1) && e2) && e3), (((e0 && e1) && e2) && e3), (((e0 && e1) && e2) && e3), true, true, ((((e0 && e1) && e2) && e3) && e4), ((((e0 && e1) && e2) && e3) && e4), ((((e0 && e1) && e2) && e3) && e4), ((((e0 && e1) && e2) && e3) && e4), ((((e0 && e1) && e2) && e3) && e4), true, true, (((((e0 && e1) && e2) && e3) && e4) && e5), (((((e0 && e1) && e2) && e3) && e4) && e5), (((((e0 && e1) && e2) && e3) && e4) && e5), (((((e0 && e1) && e2) && e3) && e4) && e5), (((((e0 && e1) && e2) && e3) && e4) && e5), true, true]
def SAMK : List Nat := [4, 5, 6, 7, 8, 9, 10, 11, 12, 13, 14, 15, 16, 17, 18, 19, 20, 21, 22, 23, 24, 25, 26, 27, 28, 29, 30, 31, 32, 33, 34, 35, 36, 37, 38, 39, 40, 41, 42, 43, 44, 45, 46, 47, 48, 49, 50, 51]
theorem same_on (B : Nat) (t u : Lg) (ao bo : Option Addr) (ca cb : Nat) (e0 e1 e2 e3 e4 e5 e6 : Bool) : OnL (fun i => (SAMV B t u ao bo ca cb e0 e1 e2 e3 e4 e5 e6).getD i undef) (fun i => (SAMO e0 e1 e2 e3 e4 e5).getD i true) 0 SAML :=
  ⟨rfl, ⟨rfl, ⟨rfl, ⟨rfl, ⟨rfl, ⟨rfl, ⟨⟨rfl, by decide, _, rfl, rfl⟩, ⟨⟨rfl, by decide, _, rfl, rfl⟩, ⟨⟨rfl, by decide, _, rfl, rfl⟩, ⟨⟨rfl, by decide, _, rfl, rfl⟩, ⟨⟨rfl, by decide, _, rfl, rfl⟩, ⟨rfl, ⟨rfl, ⟨⟨rfl, by decide, _, rfl, rfl⟩, ⟨⟨rfl, by decide, _, rfl, rfl⟩, ⟨⟨rfl, by decide, _, rfl, rfl⟩, ⟨⟨rfl, by decide, _, rfl, rfl⟩, ⟨⟨rfl, by decide, _, rfl, rfl⟩, ⟨rfl, ⟨rfl, ⟨⟨rfl, by decide, _, rfl, rfl⟩, ⟨⟨rfl, by decide, _, rfl, rfl⟩, ⟨⟨rfl, by decide, _, rfl, rfl⟩, ⟨⟨rfl, by decide, _, rfl, rfl⟩, ⟨⟨rfl, by decide, _, rfl, rfl⟩, ⟨rfl, ⟨rfl, ⟨⟨rfl, by decide, _, rfl, rfl⟩, ⟨⟨rfl, by decide, _, rfl, rfl⟩, ⟨⟨rfl, by decide, _, rfl, rfl⟩, ⟨⟨rfl, by decide, _, rfl, rfl⟩, ⟨⟨rfl, by decide, _, rfl, rfl⟩, ⟨rfl, ⟨rfl, ⟨⟨rfl, by decide, _, rfl, rfl⟩, ⟨⟨rfl, by decide, _, rfl, rfl⟩, ⟨⟨rfl, by decide, _, rfl, rfl⟩, ⟨⟨rfl, by decide, _, rfl, rfl⟩, ⟨⟨rfl, by decide, _, rfl, rfl⟩, ⟨rfl, ⟨rfl, ⟨⟨rfl, by decide, _, rfl, rfl⟩, ⟨⟨rfl, by decide, _, rfl, rfl⟩, ⟨⟨rfl, by decide, _, rfl, rfl⟩, ⟨⟨rfl, by decide, _, rfl, rfl⟩, ⟨⟨rfl, by decide, _, rfl, rfl⟩, ⟨rfl, ⟨rfl, trivial⟩⟩⟩⟩⟩⟩⟩⟩⟩⟩⟩⟩⟩⟩⟩⟩⟩⟩⟩⟩⟩⟩⟩⟩⟩⟩⟩⟩⟩⟩⟩⟩⟩⟩⟩⟩⟩⟩⟩⟩⟩⟩⟩⟩⟩⟩⟩⟩
set_option maxRecDepth 100000 in
set_option maxHeartbeats 4000000 in
theorem same_obl (B : Nat) (t u : Lg) (ao bo : Option Addr) (ca cb : Nat) (e0 e1 e2 e3 e4 e5 e6 : Bool) (w2 : World) (ht : Lq w2 B t ao ca) (hu : Lq w2 (B + 1) u bo cb) (hr : RdE w2 ao t.d) (hs : RdE w2 bo u.d)
    (q0 : (t.f == u.f) = e0) (q1 : (t.v == u.v) = e1) (q2 : (t.t == u.t) = e2) (q3 : ((t.h == u.h) && ((t.a == u.a) && ((t.p == u.p) && (t.i == u.i)))) = e3) (q5 : (t.b == u.b) = e5) (q6 : (t.x == u.x) = e6)
    (hS : ∀ w1, RdE w1 ao t.d → RdE w1 bo u.d → Calls Tryd.prog 10 #[.slice ao t.d.length ca, .slice bo u.d.length cb] w1 fun e w' => e = .returned (.bool e4) ∧ Below w1.heap.size w1 w')
    (old : Nat → Value) (h2 : old 2 = .pointer (some ⟨B, 0, none⟩)) (h3 : old 3 = .pointer (some ⟨B + 1, 0, none⟩)) (Q : Exit → Act → World → Prop) : Obl Tryd.prog Q (fun x => Below w2.heap.size w2 x) SAML (fun i => (SAMV B t u ao bo ca cb e0 e1 e2 e3 e4 e5 e6).getD i undef) (fun i => (SAMO e0 e1 e2 e3 e4 e5).getD i true) old SAMK 0 SAML := by
  have hN1 := fun w1 => namesof_walk t ao ca w1
  have hN2 := fun w1 => namesof_walk u bo cb w1
  refine And.intro ?_ (And.intro ?_ (And.intro ?_ (And.intro ?_ (And.intro ?_ (And.intro ?_ (And.intro ?_ (And.intro ?_ (And.intro ?_ (And.intro ?_ (And.intro ?_ (And.intro ?_ (And.intro ?_ (And.intro ?_ (And.intro ?_ (And.intro ?_ (And.intro ?_ (And.intro ?_ (And.intro ?_ (And.intro ?_ (And.intro ?_ (And.intro ?_ (And.intro ?_ (And.intro ?_ (And.intro ?_ (And.intro ?_ (And.intro ?_ (And.intro ?_ (And.intro ?_ (And.intro ?_ (And.intro ?_ (And.intro ?_ (And.intro ?_ (And.intro ?_ (And.intro ?_ (And.intro ?_ (And.intro ?_ (And.intro ?_ (And.intro ?_ (And.intro ?_ (And.intro ?_ (And.intro ?_ (And.intro ?_ (And.intro ?_ (And.intro ?_ (And.intro ?_ (And.intro ?_ (And.intro ?_ (trivial))))))))))))))))))))))))))))))))))))))))))))))))
  · intro hon o a x ho hJ hold hp
    exact fun_field ho ((hold 2 (by decide)).trans h2) (run_fieldL0 x _) hJ
  · intro hon o a x ho hJ hold hp
    have s : slot a 5 = .pointer (some ⟨B, 0, none⟩) := hp 0 (by decide) rfl
    exact fun_load ho s (run_loadLI x _ _ _ (ht.below hJ).cells.1) hJ
  · intro hon o a x ho hJ hold hp
    exact fun_field ho ((hold 3 (by decide)).trans h3) (run_fieldL0 x _) hJ
  · intro hon o a x ho hJ hold hp
    have s : slot a 7 = .pointer (some ⟨B + 1, 0, none⟩) := hp 2 (by decide) rfl
    exact fun_load ho s (run_loadLI x _ _ _ (hu.below hJ).cells.1) hJ
  · intro hon o a x ho hJ hold hp
    have s : slot a 6 = .int .i64 t.f := hp 1 (by decide) rfl
    have s2 : slot a 8 = .int .i64 u.f := hp 3 (by decide) rfl
    refine op_val (do eqGuard .eql 3 (.tmp 6) (.tmp 8) (.int .i64 t.f) (.int .i64 u.f); binOp .eql 3 (.int .i64 t.f) (.int .i64 u.f)) (by simp only [execOp, ho]; rw [eval_slot, eval_slot, s, s2]) ?_ ⟨rfl, hJ⟩
    go_simp
    rfl
  · intro hon o a x ho hJ hold hp
    have s : slot a 9 = .bool e0 := hp 4 (by decide) rfl
    exact fun_move (.inl ho) ((eval_slot _ _).trans s) hJ
  · intro hon o a x ho hJ hold hp
    exact fun_field ho ((hold 2 (by decide)).trans h2) (run_fieldL1 x _) hJ
  · intro hon o a x ho hJ hold hp
    have s : slot a 11 = .pointer (some ⟨B, 1, none⟩) := hp 6 (by decide) hon
    exact fun_load ho s (run_loadLI x _ _ _ (ht.below hJ).cells.2.1) hJ
  · intro hon o a x ho hJ hold hp
    exact fun_field ho ((hold 3 (by decide)).trans h3) (run_fieldL1 x _) hJ
  · intro hon o a x ho hJ hold hp
    have s : slot a 13 = .pointer (some ⟨B + 1, 1, none⟩) := hp 8 (by decide) hon
    exact fun_load ho s (run_loadLI x _ _ _ (hu.below hJ).cells.2.1) hJ
  · intro hon o a x ho hJ hold hp
    have s : slot a 12 = .int .i64 t.v := hp 7 (by decide) hon
    have s2 : slot a 14 = .int .i64 u.v := hp 9 (by decide) hon
    refine op_val (do eqGuard .eql 3 (.tmp 12) (.tmp 14) (.int .i64 t.v) (.int .i64 u.v); binOp .eql 3 (.int .i64 t.v) (.int .i64 u.v)) (by simp only [execOp, ho]; rw [eval_slot, eval_slot, s, s2]) ?_ ⟨rfl, hJ⟩
    go_simp
    rfl
  · intro hon o a x ho hJ hold hp
    have s : slot a 10 = .bool e0 := hp 5 (by decide) rfl
    exact fun_pick ho s (fun hb => hp 10 (by decide) hb) hJ
  · intro hon o a x ho hJ hold hp
    have s : slot a 16 = .bool (e0 && e1) := hp 11 (by decide) rfl
    exact fun_move (.inl ho) ((eval_slot _ _).trans s) hJ
  · intro hon o a x ho hJ hold hp
    exact fun_field ho ((hold 2 (by decide)).trans h2) (run_fieldL2 x _) hJ
  · intro hon o a x ho hJ hold hp
    have s : slot a 18 = .pointer (some ⟨B, 2, none⟩) := hp 13 (by decide) hon
    exact fun_load ho s (run_loadLI x _ _ _ (ht.below hJ).cells.2.2.1) hJ
  · intro hon o a x ho hJ hold hp
    exact fun_field ho ((hold 3 (by decide)).trans h3) (run_fieldL2 x _) hJ
  · intro hon o a x ho hJ hold hp
    have s : slot a 20 = .pointer (some ⟨B + 1, 2, none⟩) := hp 15 (by decide) hon
    exact fun_load ho s (run_loadLI x _ _ _ (hu.below hJ).cells.2.2.1) hJ
  · intro hon o a x ho hJ hold hp
    have s : slot a 19 = .int .i64 t.t := hp 14 (by decide) hon
    have s2 : slot a 21 = .int .i64 u.t := hp 16 (by decide) hon
    refine op_val (do eqGuard .eql 3 (.tmp 19) (.tmp 21) (.int .i64 t.t) (.int .i64 u.t); binOp .eql 3 (.int .i64 t.t) (.int .i64 u.t)) (by simp only [execOp, ho]; rw [eval_slot, eval_slot, s, s2]) ?_ ⟨rfl, hJ⟩
    go_simp
    rfl
  · intro hon o a x ho hJ hold hp
    have s : slot a 17 = .bool (e0 && e1) := hp 12 (by decide) rfl
    exact fun_pick ho s (fun hb => hp 17 (by decide) hb) hJ
  · intro hon o a x ho hJ hold hp
    have s : slot a 23 = .bool ((e0 && e1) && e2) := hp 18 (by decide) rfl
    exact fun_move (.inl ho) ((eval_slot _ _).trans s) hJ
  · intro hon o a x ho hJ hold hp
    exact fun_load ho ((hold 2 (by decide)).trans h2) (run_loadL x _ _ _ _ (ht.below hJ)) hJ
  · intro hon o a x ho hJ hold hp
    have s0 : slot a 25 = .agg #[.int .i64 t.f, .int .i64 t.v, .int .i64 t.t, .string (bs t.h), .string (bs t.a), .string (bs t.p), .string (bs t.i), .slice ao t.d.length ca, .bool t.b, .string (bs t.x)] := hp 20 (by decide) hon
    have f0 : a.tmps[25]?.getD undef = .agg #[.int .i64 t.f, .int .i64 t.v, .int .i64 t.t, .string (bs t.h), .string (bs t.a), .string (bs t.p), .string (bs t.i), .slice ao t.d.length ca, .bool t.b, .string (bs t.x)] := by simpa [slot] using s0
    refine op_enter (f := 9) (args := #[.agg #[.int .i64 t.f, .int .i64 t.v, .int .i64 t.t, .string (bs t.h), .string (bs t.a), .string (bs t.p), .string (bs t.i), .slice ao t.d.length ca, .bool t.b, .string (bs t.x)]]) ?_ (hN1 x) ?_
    · simp only [execOp, ho]
      simp [resolve, invoke, Act.eval, f0]
      go_simp
    · rintro e x1 ⟨rfl, k⟩
      exact ⟨_, rfl, rfl, hJ.trans (k.mono hJ.size)⟩
  · intro hon o a x ho hJ hold hp
    exact fun_load ho ((hold 3 (by decide)).trans h3) (run_loadL x _ _ _ _ (hu.below hJ)) hJ
  · intro hon o a x ho hJ hold hp
    have s0 : slot a 27 = .agg #[.int .i64 u.f, .int .i64 u.v, .int .i64 u.t, .string (bs u.h), .string (bs u.a), .string (bs u.p), .string (bs u.i), .slice bo u.d.length cb, .bool u.b, .string (bs u.x)] := hp 22 (by decide) hon
    have f0 : a.tmps[27]?.getD undef = .agg #[.int .i64 u.f, .int .i64 u.v, .int .i64 u.t, .string (bs u.h), .string (bs u.a), .string (bs u.p), .string (bs u.i), .slice bo u.d.length cb, .bool u.b, .string (bs u.x)] := by simpa [slot] using s0
    refine op_enter (f := 9) (args := #[.agg #[.int .i64 u.f, .int .i64 u.v, .int .i64 u.t, .string (bs u.h), .string (bs u.a), .string (bs u.p), .string (bs u.i), .slice bo u.d.length cb, .bool u.b, .string (bs u.x)]]) ?_ (hN2 x) ?_
    · simp only [execOp, ho]
      simp [resolve, invoke, Act.eval, f0]
      go_simp
    · rintro e x1 ⟨rfl, k⟩
      exact ⟨_, rfl, rfl, hJ.trans (k.mono hJ.size)⟩
  · intro hon o a x ho hJ hold hp
    have s : slot a 26 = .agg #[.string (bs t.h), .string (bs t.a), .string (bs t.p), .string (bs t.i)] := hp 21 (by decide) hon
    have s2 : slot a 28 = .agg #[.string (bs u.h), .string (bs u.a), .string (bs u.p), .string (bs u.i)] := hp 23 (by decide) hon
    have hq := fun w1 => run_equal_names t.h t.a t.p t.i u.h u.a u.p u.i w1
    rw [q3] at hq
    refine op_val (do eqGuard .eql 36 (.tmp 26) (.tmp 28) (.agg #[.string (bs t.h), .string (bs t.a), .string (bs t.p), .string (bs t.i)]) (.agg #[.string (bs u.h), .string (bs u.a), .string (bs u.p), .string (bs u.i)]); binOp .eql 36 (.agg #[.string (bs t.h), .string (bs t.a), .string (bs t.p), .string (bs t.i)]) (.agg #[.string (bs u.h), .string (bs u.a), .string (bs u.p), .string (bs u.i)])) (by simp only [execOp, ho]; rw [eval_slot, eval_slot, s, s2]) ?_ ⟨rfl, hJ⟩
    go_simp
    rfl
  · intro hon o a x ho hJ hold hp
    have s : slot a 24 = .bool ((e0 && e1) && e2) := hp 19 (by decide) rfl
    exact fun_pick ho s (fun hb => hp 24 (by decide) hb) hJ
  · intro hon o a x ho hJ hold hp
    have s : slot a 30 = .bool (((e0 && e1) && e2) && e3) := hp 25 (by decide) rfl
    exact fun_move (.inl ho) ((eval_slot _ _).trans s) hJ
  · intro hon o a x ho hJ hold hp
    exact fun_field ho ((hold 2 (by decide)).trans h2) (run_fieldL7 x _) hJ
  · intro hon o a x ho hJ hold hp
    have s : slot a 32 = .pointer (some ⟨B, 7, none⟩) := hp 27 (by decide) hon
    exact fun_load ho s (run_loadLE x _ _ _ _ _ (ht.below hJ).cells.2.2.2.2.2.2.2.1) hJ
  · intro hon o a x ho hJ hold hp
    exact fun_field ho ((hold 3 (by decide)).trans h3) (run_fieldL7 x _) hJ
  · intro hon o a x ho hJ hold hp
    have s : slot a 34 = .pointer (some ⟨B + 1, 7, none⟩) := hp 29 (by decide) hon
    exact fun_load ho s (run_loadLE x _ _ _ _ _ (hu.below hJ).cells.2.2.2.2.2.2.2.1) hJ
  · intro hon o a x ho hJ hold hp
    have s0 : slot a 33 = .slice ao t.d.length ca := hp 28 (by decide) hon
    have s1 : slot a 35 = .slice bo u.d.length cb := hp 30 (by decide) hon
    have f0 : a.tmps[33]?.getD undef = .slice ao t.d.length ca := by simpa [slot] using s0
    have f1 : a.tmps[35]?.getD undef = .slice bo u.d.length cb := by simpa [slot] using s1
    refine op_enter (f := 10) (args := #[.slice ao t.d.length ca, .slice bo u.d.length cb]) ?_ (hS x (hr.below hJ) (hs.below hJ)) ?_
    · simp only [execOp, ho]
      simp [resolve, invoke, Act.eval, f0, f1]
      go_simp
    · rintro e x1 ⟨rfl, k⟩
      exact ⟨_, rfl, rfl, hJ.trans (k.mono hJ.size)⟩
  · intro hon o a x ho hJ hold hp
    have s : slot a 31 = .bool (((e0 && e1) && e2) && e3) := hp 26 (by decide) rfl
    exact fun_pick ho s (fun hb => hp 31 (by decide) hb) hJ
  · intro hon o a x ho hJ hold hp
    have s : slot a 37 = .bool ((((e0 && e1) && e2) && e3) && e4) := hp 32 (by decide) rfl
    exact fun_move (.inl ho) ((eval_slot _ _).trans s) hJ
  · intro hon o a x ho hJ hold hp
    exact fun_field ho ((hold 2 (by decide)).trans h2) (run_fieldL8 x _) hJ
  · intro hon o a x ho hJ hold hp
    have s : slot a 39 = .pointer (some ⟨B, 8, none⟩) := hp 34 (by decide) hon
    exact fun_load ho s (run_loadLB x _ _ _ (ht.below hJ).cells.2.2.2.2.2.2.2.2.1) hJ
  · intro hon o a x ho hJ hold hp
    exact fun_field ho ((hold 3 (by decide)).trans h3) (run_fieldL8 x _) hJ
  · intro hon o a x ho hJ hold hp
    have s : slot a 41 = .pointer (some ⟨B + 1, 8, none⟩) := hp 36 (by decide) hon
    exact fun_load ho s (run_loadLB x _ _ _ (hu.below hJ).cells.2.2.2.2.2.2.2.2.1) hJ
  · intro hon o a x ho hJ hold hp
    have s : slot a 40 = .bool t.b := hp 35 (by decide) hon
    have s2 : slot a 42 = .bool u.b := hp 37 (by decide) hon
    refine op_val (do eqGuard .eql 4 (.tmp 40) (.tmp 42) (.bool t.b) (.bool u.b); binOp .eql 4 (.bool t.b) (.bool u.b)) (by simp only [execOp, ho]; rw [eval_slot, eval_slot, s, s2]) ?_ ⟨rfl, hJ⟩
    go_simp
    rfl
  · intro hon o a x ho hJ hold hp
    have s : slot a 38 = .bool ((((e0 && e1) && e2) && e3) && e4) := hp 33 (by decide) rfl
    exact fun_pick ho s (fun hb => hp 38 (by decide) hb) hJ
  · intro hon o a x ho hJ hold hp
    have s : slot a 44 = .bool (((((e0 && e1) && e2) && e3) && e4) && e5) := hp 39 (by decide) rfl
    exact fun_move (.inl ho) ((eval_slot _ _).trans s) hJ
  · intro hon o a x ho hJ hold hp
    exact fun_field ho ((hold 2 (by decide)).trans h2) (run_fieldL9 x _) hJ
  · intro hon o a x ho hJ hold hp
    have s : slot a 46 = .pointer (some ⟨B, 9, none⟩) := hp 41 (by decide) hon
    exact fun_load ho s (run_loadLS x _ _ _ (ht.below hJ).cells.2.2.2.2.2.2.2.2.2) hJ
  · intro hon o a x ho hJ hold hp
    exact fun_field ho ((hold 3 (by decide)).trans h3) (run_fieldL9 x _) hJ
  · intro hon o a x ho hJ hold hp
    have s : slot a 48 = .pointer (some ⟨B + 1, 9, none⟩) := hp 43 (by decide) hon
    exact fun_load ho s (run_loadLS x _ _ _ (hu.below hJ).cells.2.2.2.2.2.2.2.2.2) hJ
  · intro hon o a x ho hJ hold hp
    have s : slot a 47 = .string (bs t.x) := hp 42 (by decide) hon
    have s2 : slot a 49 = .string (bs u.x) := hp 44 (by decide) hon
    refine op_val (do eqGuard .eql 9 (.tmp 47) (.tmp 49) (.string (bs t.x)) (.string (bs u.x)); binOp .eql 9 (.string (bs t.x)) (.string (bs u.x))) (by simp only [execOp, ho]; rw [eval_slot, eval_slot, s, s2]) ?_ ⟨rfl, hJ⟩
    go_simp
    rfl
  · intro hon o a x ho hJ hold hp
    have s : slot a 45 = .bool (((((e0 && e1) && e2) && e3) && e4) && e5) := hp 40 (by decide) rfl
    exact fun_pick ho s (fun hb => hp 45 (by decide) hb) hJ
  · intro hon o a x ho hJ hold hp
    have s : slot a 51 = .bool ((((((e0 && e1) && e2) && e3) && e4) && e5) && e6) := hp 46 (by decide) rfl
    exact fun_move (.inr ho) ((eval_slot _ _).trans s) hJ
theorem samk_lt : ∀ r ∈ SAMK, r < 52 := by decide
set_option maxRecDepth 100000 in
set_option maxHeartbeats 4000000 in
theorem sys_same_walk (t u : Lg) (ao bo : Option Addr) (ca cb : Nat) (hl : LimG 140737488355327 t) (hl2 : LimG 140737488355327 u) (w : World) (hr : RdE w ao t.d) (hs : RdE w bo u.d) :
    Calls Tryd.prog 5 #[.agg #[.int .i64 t.f, .int .i64 t.v, .int .i64 t.t, .string (bs t.h), .string (bs t.a), .string (bs t.p), .string (bs t.i), .slice ao t.d.length ca, .bool t.b, .string (bs t.x)], .agg #[.int .i64 u.f, .int .i64 u.v, .int .i64 u.t, .string (bs u.h), .string (bs u.a), .string (bs u.p), .string (bs u.i), .slice bo u.d.length cb, .bool u.b, .string (bs u.x)]] w fun e w' => e = .returned (.bool (saL t u)) ∧ Below w.heap.size w w' := by
  obtain ⟨w2, hw2, ht, hu, bw⟩ := two_logs w t u ao bo ca cb
  have HW := Lib.hid hw2
  have hS := fun w1 (h1 : RdE w1 ao t.d) (h2 : RdE w1 bo u.d) => ksame_walk t.d u.d ao bo ca cb (by have := hl.2.2.2.2.2.1; omega) (by have := hl2.2.2.2.2.2.1; omega) (fun x hx => by have := (hl.2.2.2.2.2.2 x hx).2.1; omega) (fun x hx => by have := (hl2.2.2.2.2.2.2 x hx).2.1; omega) w1 h1 h2
  obtain ⟨e0, q0⟩ : ∃ b, (t.f == u.f) = b := ⟨_, rfl⟩
  obtain ⟨e1, q1⟩ : ∃ b, (t.v == u.v) = b := ⟨_, rfl⟩
  obtain ⟨e2, q2⟩ : ∃ b, (t.t == u.t) = b := ⟨_, rfl⟩
  obtain ⟨e3, q3⟩ : ∃ b, ((t.h == u.h) && ((t.a == u.a) && ((t.p == u.p) && (t.i == u.i)))) = b := ⟨_, rfl⟩
  obtain ⟨e4, q4⟩ : ∃ b, saE t.d u.d = b := ⟨_, rfl⟩
  obtain ⟨e5, q5⟩ : ∃ b, (t.b == u.b) = b := ⟨_, rfl⟩
  obtain ⟨e6, q6⟩ : ∃ b, (t.x == u.x) = b := ⟨_, rfl⟩
  have hall : saL t u = ((((((e0 && e1) && e2) && e3) && e4) && e5) && e6) := by
    rw [← q0, ← q1, ← q2, ← q3, ← q4, ← q5, ← q6, Bool.eq_iff_iff]
    unfold saL saE
    simp only [Bool.and_eq_true, beq_iff_eq, decide_eq_true_eq]
    constructor
    · rintro rfl
      simp
    · rintro ⟨⟨⟨⟨⟨⟨a1, a2⟩, a3⟩, a4, a5, a6, a7⟩, a8⟩, a9⟩, a10⟩
      cases t; cases u
      simp_all
  rw [q4] at hS
  have HO := Lib.hid (same_obl w.heap.size t u ao bo ca cb e0 e1 e2 e3 e4 e5 e6 w2 ht hu (hr.below bw) (hs.below bw) q0 q1 q2 q3 q5 q6 hS)
  have HON := Lib.hid (same_on w.heap.size t u ao bo ca cb e0 e1 e2 e3 e4 e5 e6)
  have HALL := Lib.hid hall
  have HB := Lib.hid bw
  clear hS hw2 hr hs hl hl2 ht hu q0 q1 q2 q3 q4 q5 q6 hall bw
  go_enter Tryd.func5, Tryd.ntmps5
  go_wp2_with fail
  rw [HW.out]
  refine wp_region_fun (fun x => Below w2.heap.size w2 x) SAML _ _ SAMK (by kernel_rfl) ?_ (by kernel_rfl) (by decide) samk_lt ⟨rfl, rfl, rfl, Nat.le_refl _, fun _ _ => rfl⟩ HON.out (HO.out _ rfl rfl _) ?_
  · exact ⟨⟨_, rfl, rfl, rfl, rfl, by kernel_rfl⟩, ⟨⟨_, rfl, rfl, rfl, rfl, by kernel_rfl⟩, ⟨⟨_, rfl, rfl, rfl, rfl, by kernel_rfl⟩, ⟨⟨_, rfl, rfl, rfl, rfl, by kernel_rfl⟩, ⟨⟨_, rfl, rfl, rfl, rfl, by kernel_rfl⟩, ⟨⟨_, rfl, rfl, rfl, rfl, by kernel_rfl⟩, ⟨⟨_, rfl, rfl, rfl, rfl, by kernel_rfl⟩, ⟨⟨_, rfl, rfl, rfl, rfl, by kernel_rfl⟩, ⟨⟨_, rfl, rfl, rfl, rfl, by kernel_rfl⟩, ⟨⟨_, rfl, rfl, rfl, rfl, by kernel_rfl⟩, ⟨⟨_, rfl, rfl, rfl, rfl, by kernel_rfl⟩, ⟨⟨_, rfl, rfl, rfl, rfl, by kernel_rfl⟩, ⟨⟨_, rfl, rfl, rfl, rfl, by kernel_rfl⟩, ⟨⟨_, rfl, rfl, rfl, rfl, by kernel_rfl⟩, ⟨⟨_, rfl, rfl, rfl, rfl, by kernel_rfl⟩, ⟨⟨_, rfl, rfl, rfl, rfl, by kernel_rfl⟩, ⟨⟨_, rfl, rfl, rfl, rfl, by kernel_rfl⟩, ⟨⟨_, rfl, rfl, rfl, rfl, by kernel_rfl⟩, ⟨⟨_, rfl, rfl, rfl, rfl, by kernel_rfl⟩, ⟨⟨_, rfl, rfl, rfl, rfl, by kernel_rfl⟩, ⟨⟨_, rfl, rfl, rfl, rfl, by kernel_rfl⟩, ⟨⟨_, rfl, rfl, rfl, rfl, by kernel_rfl⟩, ⟨⟨_, rfl, rfl, rfl, rfl, by kernel_rfl⟩, ⟨⟨_, rfl, rfl, rfl, rfl, by kernel_rfl⟩, ⟨⟨_, rfl, rfl, rfl, rfl, by kernel_rfl⟩, ⟨⟨_, rfl, rfl, rfl, rfl, by kernel_rfl⟩, ⟨⟨_, rfl, rfl, rfl, rfl, by kernel_rfl⟩, ⟨⟨_, rfl, rfl, rfl, rfl, by kernel_rfl⟩, ⟨⟨_, rfl, rfl, rfl, rfl, by kernel_rfl⟩, ⟨⟨_, rfl, rfl, rfl, rfl, by kernel_rfl⟩, ⟨⟨_, rfl, rfl, rfl, rfl, by kernel_rfl⟩, ⟨⟨_, rfl, rfl, rfl, rfl, by kernel_rfl⟩, ⟨⟨_, rfl, rfl, rfl, rfl, by kernel_rfl⟩, ⟨⟨_, rfl, rfl, rfl, rfl, by kernel_rfl⟩, ⟨⟨_, rfl, rfl, rfl, rfl, by kernel_rfl⟩, ⟨⟨_, rfl, rfl, rfl, rfl, by kernel_rfl⟩, ⟨⟨_, rfl, rfl, rfl, rfl, by kernel_rfl⟩, ⟨⟨_, rfl, rfl, rfl, rfl, by kernel_rfl⟩, ⟨⟨_, rfl, rfl, rfl, rfl, by kernel_rfl⟩, ⟨⟨_, rfl, rfl, rfl, rfl, by kernel_rfl⟩, ⟨⟨_, rfl, rfl, rfl, rfl, by kernel_rfl⟩, ⟨⟨_, rfl, rfl, rfl, rfl, by kernel_rfl⟩, ⟨⟨_, rfl, rfl, rfl, rfl, by kernel_rfl⟩, ⟨⟨_, rfl, rfl, rfl, rfl, by kernel_rfl⟩, ⟨⟨_, rfl, rfl, rfl, rfl, by kernel_rfl⟩, ⟨⟨_, rfl, rfl, rfl, rfl, by kernel_rfl⟩, ⟨⟨_, rfl, rfl, rfl, rfl, by kernel_rfl⟩, ⟨⟨_, rfl, rfl, rfl, rfl, by kernel_rfl⟩, rfl⟩⟩⟩⟩⟩⟩⟩⟩⟩⟩⟩⟩⟩⟩⟩⟩⟩⟩⟩⟩⟩⟩⟩⟩⟩⟩⟩⟩⟩⟩⟩⟩⟩⟩⟩⟩⟩⟩⟩⟩⟩⟩⟩⟩⟩⟩⟩⟩
  · intro a w' hJ hF hV
    have h4 : slot a 4 = .bool ((((((e0 && e1) && e2) && e3) && e4) && e5) && e6) := hV 47 (by decide) rfl
    rw [hF.eq]
    simp only [puts, SAMK, List.foldl, Act.put, List.setIfInBounds_toArray, List.set_cons_succ, List.set_cons_zero]
    rw [h4]
    go_wp2
    go_ret
    rw [HALL.out]
    exact ⟨rfl, HB.out.trans (hJ.mono HB.out.size)⟩
end Go.Proofs.YtonippapkmmkeaaDoor
