/- What the laws of stamp share: the tables as the rows list them, the chapter's example. -/
import Derived.Test.YtaijekagcmkgjaaDoorStpD
import Derived.Test.YtaijekagcmkgjaaDoorTab
import Derived.Test.YtaijekagcmkgjaaDoorArg
import Derived.Test.YtaijekagcmkgjaaDoorCards
import Derived.Test.YtaijekagcmkgjaaDoorTie
import Derived.Deep.DeepHandedRow
namespace Go.Proofs.YtaijekagcmkgjaaDoor
open Go.ChangeShapes Go.WideShapes Go.ChangeAt Go.RowKit K S3
set_option linter.unusedVariables false

theorem months_data : (Rows.laid_gong_stamp_monthsAhead : DataW Unit) = Lib.tabData .i64 ((List.range 13).map fun k => cum (k + 1)) := rfl
theorem monthsOf {W : World} {L : List (String × DataW Unit)} (h : laidMetH Tryd.prog L W) (hp : (L.all fun x => x.2.handleName?.isNone) = true) (hm : ("gong/stamp.monthsAhead", Rows.laid_gong_stamp_monthsAhead) ∈ L) : Months W := by
  rw [months_data] at hm
  have hT := laid_tab h hp hm (by kernel_rfl : Tryd.prog.globalNamed "gong/stamp.monthsAhead" = some 1) (by kernel_rfl) Tryd.underlying60 Tryd.underlying3 (by kernel_rfl) (by kernel_rfl)
  intro k hk
  have hc := hT.cell (by kernel_rfl : Tryd.prog.globalNamed "gong/stamp.monthsAhead" = some 1) k (by simpa using hk)
  rw [hc]
  simp [List.getD, hk]
theorem units_data : (Rows.laid_gong_stamp_units : DataW Unit) = .agg (([([100], 86400000000000), ([104], 3600000000000), ([109], 60000000000), ([115], 1000000000), ([109, 115], 1000000), ([117, 115], 1000), ([110, 115], 1)] : List (List UInt8 × Int)).map fun z => .agg [.lit (.string z.1), .lit (.int .i64 z.2)]) := rfl
theorem unitsOf {W : World} {L : List (String × DataW Unit)} (h : laidMetH Tryd.prog L W) (hp : (L.all fun x => x.2.handleName?.isNone) = true) (hm : ("gong/stamp.units", Rows.laid_gong_stamp_units) ∈ L) : Units W := by
  rw [units_data] at hm
  obtain ⟨cs, fuel, p, hv, hd⟩ := laid_at h hp hm (by kernel_rfl : Tryd.prog.globalNamed "gong/stamp.units" = some 0) (by kernel_rfl : (Tryd.prog.globals[0]?).map (·.type) = some 47)
  obtain ⟨hl, hz⟩ := pairs_of Tryd.underlying47 Tryd.underlying46 rfl rfl rfl rfl rfl rfl Tryd.underlying9 Tryd.underlying3 (by kernel_rfl) (by kernel_rfl) (by kernel_rfl) (by kernel_rfl) hd
  have z0 := hz 0 _ rfl; have z1 := hz 1 _ rfl; have z2 := hz 2 _ rfl; have z3 := hz 3 _ rfl; have z4 := hz 4 _ rfl; have z5 := hz 5 _ rfl; have z6 := hz 6 _ rfl
  have hcs : cs = UC := by
    obtain ⟨l⟩ := cs
    simp only at hl z0 z1 z2 z3 z4 z5 z6
    congr 1
    match l, hl with
    | [a0, a1, a2, a3, a4, a5, a6, a7, a8, a9, a10, a11, a12, a13], _ =>
      simp only [Nat.mul_zero, List.drop_zero, List.take_succ_cons, List.take_zero, List.cons.injEq, and_true] at z0
      simp at z1 z2 z3 z4 z5 z6
      obtain ⟨rfl, rfl⟩ := z0
      obtain ⟨rfl, rfl⟩ := z1
      obtain ⟨rfl, rfl⟩ := z2
      obtain ⟨rfl, rfl⟩ := z3
      obtain ⟨rfl, rfl⟩ := z4
      obtain ⟨rfl, rfl⟩ := z5
      obtain ⟨rfl, rfl⟩ := z6
      rfl
  subst hcs
  unfold World.var? at hv
  rw [show Tryd.prog.globalNamed "gong/stamp.units" = some 0 by kernel_rfl] at hv
  simp only [Option.bind_some] at hv
  cases hh : W.heap[0]? with
  | none => rw [hh] at hv; simp at hv
  | some o =>
    rw [hh] at hv
    cases o with
    | cells C t fr => simp at hv; subst hv; exact ⟨t, fr, hh⟩
    | _ => simp at hv

set_option maxRecDepth 100000 in
theorem works_vals : (prsV [50, 48, 48, 51, 45, 49, 48, 45, 49, 49, 84, 50, 50, 58, 49, 52, 58, 49, 53, 46, 48, 48, 51, 90] = 1065910455003000000 ∧ prsC [50, 48, 48, 51, 45, 49, 48, 45, 49, 49, 84, 50, 50, 58, 49, 52, 58, 49, 53, 46, 48, 48, 51, 90] = 0) ∧
    prsV [50, 48, 48, 51, 45, 49, 48, 45, 49, 50, 84, 48, 48, 58, 49, 52, 58, 49, 53, 46, 48, 48, 51, 48, 48, 48, 43, 48, 50, 58, 48, 48] = 1065910455003000000 ∧ prsC [50, 48, 48, 51, 45, 49, 48, 45, 49, 50, 84, 48, 48, 58, 49, 52, 58, 49, 53, 46, 48, 48, 51, 48, 48, 48, 43, 48, 50, 58, 48, 48] = 0 := by
  decide +kernel
theorem works_walk (w : World) (hM : Months w) :
    Calls Tryd.prog 8 #[] w fun e w' => e = .returned (.bool true) ∧ Below w.heap.size w w' := by
  obtain ⟨⟨v1, v2⟩, v3, v4⟩ := works_vals
  have hA := parse_walk [50, 48, 48, 51, 45, 49, 48, 45, 49, 49, 84, 50, 50, 58, 49, 52, 58, 49, 53, 46, 48, 48, 51, 90] (by simp) w hM
  have hB := fun w1 (h : Months w1) => parse_walk [50, 48, 48, 51, 45, 49, 48, 45, 49, 50, 84, 48, 48, 58, 49, 52, 58, 49, 53, 46, 48, 48, 51, 48, 48, 48, 43, 48, 50, 58, 48, 48] (by simp) w1 h
  rw [v1, v2] at hA
  rw [v3, v4] at hB
  have HB := Lib.hid hB
  clear v1 v2 v3 v4 hB
  go_enter Tryd.func8, Tryd.ntmps8
  go_wp2_with fail
  refine hA.mono ?_
  rintro e w1 ⟨rfl, b1⟩
  go_wp2_with fail
  refine (HB.out w1 (hM.below b1)).mono ?_
  rintro e w2 ⟨rfl, b2⟩
  go_wp2
  go_ret
  exact ⟨rfl, b1.trans (b2.mono b1.size)⟩
end Go.Proofs.YtaijekagcmkgjaaDoor
