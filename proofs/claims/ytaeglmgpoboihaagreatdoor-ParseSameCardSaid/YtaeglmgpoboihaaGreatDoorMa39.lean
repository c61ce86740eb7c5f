/- Texts on the program and on the document, joined: ParTb. -/
import Derived.Test.YtaeglmgpoboihaaGreatDoorMa38
import Derived.Test.YtaeglmgpoboihaaGreatDoorMa07
import Derived.Test.YtaeglmgpoboihaaGreatDoorMa36
import Derived.Test.YtaeglmgpoboihaaGreatDoorCards
import Derived.Test.YtaeglmgpoboihaaGreatDoorTie
/- What the library's and the program's variables hold, as the rows list them. -/
namespace Go.Proofs.YtaeglmgpoboihaaGreatDoor
open Go.ChangeShapes Go.WideShapes Go.ChangeAt Go.RowKit K L15
set_option linter.unusedVariables false
section
open S3
theorem units_data15 : (Rows.laid_gong_stamp_units : DataW Unit) = .agg (([([100], 86400000000000), ([104], 3600000000000), ([109], 60000000000), ([115], 1000000000), ([109, 115], 1000000), ([117, 115], 1000), ([110, 115], 1)] : List (List UInt8 × Int)).map fun z => .agg [.lit (.string z.1), .lit (.int .i64 z.2)]) := rfl
theorem unitsOf15 {W : World} {L : List (String × DataW Unit)} (h : laidMetH Tryz.prog L W) (hp : (L.all fun x => x.2.handleName?.isNone) = true) (hm : ("gong/stamp.units", Rows.laid_gong_stamp_units) ∈ L) : Units W := by
  rw [units_data15] at hm
  obtain ⟨cs, fuel, p, hv, hd⟩ := laid_at h hp hm (by kernel_rfl : Tryz.prog.globalNamed "gong/stamp.units" = some 2) (by kernel_rfl : (Tryz.prog.globals[2]?).map (·.type) = some 135)
  obtain ⟨hl, hz⟩ := pairs_of Tryz.underlying135 Tryz.underlying134 rfl rfl rfl rfl rfl rfl Tryz.underlying9 Tryz.underlying3 (by kernel_rfl) (by kernel_rfl) (by kernel_rfl) (by kernel_rfl) hd
  have z0 := hz 0 _ rfl; have z1 := hz 1 _ rfl; have z2 := hz 2 _ rfl; have z3 := hz 3 _ rfl; have z4 := hz 4 _ rfl; have z5 := hz 5 _ rfl; have z6 := hz 6 _ rfl
  have hcs : cs = UC := by
    obtain ⟨l⟩ := cs
    simp only at hl z0 z1 z2 z3 z4 z5 z6
    congr 1
    match l, hl with
    | [a0, a1, a2, a3, a4, a5, a6, a7, a8, a9, a10, a11, a12, a13], _ =>
      simp only [Nat.mul_zero, List.drop_zero, List.take_succ_cons, List.take_zero, List.cons.injEq, and_true] at z0
      simp at z1 z2 z3 z4 z5 z6
      obtain ⟨rfl, rfl⟩ := z0
      obtain ⟨rfl, rfl⟩ := z1
      obtain ⟨rfl, rfl⟩ := z2
      obtain ⟨rfl, rfl⟩ := z3
      obtain ⟨rfl, rfl⟩ := z4
      obtain ⟨rfl, rfl⟩ := z5
      obtain ⟨rfl, rfl⟩ := z6
      rfl
  subst hcs
  unfold World.var? at hv
  rw [show Tryz.prog.globalNamed "gong/stamp.units" = some 2 by kernel_rfl] at hv
  simp only [Option.bind_some] at hv
  cases hh : W.heap[2]? with
  | none => rw [hh] at hv; simp at hv
  | some o =>
    rw [hh] at hv
    cases o with
    | cells C t fr => simp at hv; subst hv; exact ⟨t, fr, hh⟩
    | _ => simp at hv
end
theorem pow_data15 : (Rows.laid_internal_strconv_uint64pow10 : DataW Unit) = Lib.tabData .u64 Lib.pow10Tab := rfl
theorem kinds_data : (Rows.laid_gong_parse_watchKinds : DataW Unit) = .agg (([([112, 97, 105, 114], 1), ([115, 117, 112, 112, 114, 101, 115, 115], 2), ([116, 104, 114, 101, 115, 104, 111, 108, 100], 3), ([97, 98, 115, 101, 110, 99, 101], 4)] : List (List UInt8 × Int)).map fun z => .agg [.lit (.string z.1), .lit (.int .i64 z.2)]) := rfl
theorem kindsOf {W : World} {L : List (String × DataW Unit)} (h : laidMetH Tryz.prog L W) (hp : (L.all fun x => x.2.handleName?.isNone) = true) (hm : ("gong/parse.watchKinds", Rows.laid_gong_parse_watchKinds) ∈ L) : PQ.Kinds W := by
  rw [kinds_data] at hm
  obtain ⟨cs, fuel, p, hv, hd⟩ := laid_at h hp hm (by kernel_rfl : Tryz.prog.globalNamed "gong/parse.watchKinds" = some 1) (by kernel_rfl : (Tryz.prog.globals[1]?).map (·.type) = some 130)
  obtain ⟨hl, hz⟩ := pairs_of Tryz.underlying130 Tryz.underlying129 rfl rfl rfl rfl rfl rfl Tryz.underlying9 Tryz.underlying3 (by kernel_rfl) (by kernel_rfl) (by kernel_rfl) (by kernel_rfl) hd
  have z0 := hz 0 _ rfl; have z1 := hz 1 _ rfl; have z2 := hz 2 _ rfl; have z3 := hz 3 _ rfl
  have hcs : cs = PQ.KC := by
    obtain ⟨l⟩ := cs
    simp only at hl z0 z1 z2 z3
    congr 1
    match l, hl with
    | [a0, a1, a2, a3, a4, a5, a6, a7], _ =>
      simp only [Nat.mul_zero, List.drop_zero, List.take_succ_cons, List.take_zero, List.cons.injEq, and_true] at z0
      simp at z1 z2 z3
      obtain ⟨rfl, rfl⟩ := z0
      obtain ⟨rfl, rfl⟩ := z1
      obtain ⟨rfl, rfl⟩ := z2
      obtain ⟨rfl, rfl⟩ := z3
      rfl
  subst hcs
  unfold World.var? at hv
  rw [show Tryz.prog.globalNamed "gong/parse.watchKinds" = some 1 by kernel_rfl] at hv
  simp only [Option.bind_some] at hv
  cases hh : W.heap[1]? with
  | none => rw [hh] at hv; simp at hv
  | some o =>
    rw [hh] at hv
    cases o with
    | cells C t fr => simp at hv; subst hv; exact ⟨t, fr, hh⟩
    | _ => simp at hv
theorem tabs15Of {W : World} (h : laidMetH Tryz.prog [("math/bits.deBruijn32tab", Rows.laid_math_bits_deBruijn32tab), ("math/bits.deBruijn64tab", Rows.laid_math_bits_deBruijn64tab), ("internal/strconv.uint64pow10", Rows.laid_internal_strconv_uint64pow10), ("unicode/utf8.acceptRanges", Rows.laid_unicode_utf8_acceptRanges), ("strconv.ErrRange", Rows.laid_strconv_ErrRange), ("strconv.ErrSyntax", Rows.laid_strconv_ErrSyntax), ("gong/stamp.units", Rows.laid_gong_stamp_units), ("gong/parse.watchKinds", Rows.laid_gong_parse_watchKinds), ("unicode/utf8.first", Rows.laid_unicode_utf8_first)] W) (hS : W.ShapedOpen Tryz.prog) : PaI W := by
  have hm : laidMet Tryz.prog [("math/bits.deBruijn32tab", Rows.laid_math_bits_deBruijn32tab), ("math/bits.deBruijn64tab", Rows.laid_math_bits_deBruijn64tab), ("internal/strconv.uint64pow10", Rows.laid_internal_strconv_uint64pow10), ("unicode/utf8.acceptRanges", Rows.laid_unicode_utf8_acceptRanges), ("strconv.ErrRange", Rows.laid_strconv_ErrRange), ("strconv.ErrSyntax", Rows.laid_strconv_ErrSyntax), ("gong/stamp.units", Rows.laid_gong_stamp_units), ("gong/parse.watchKinds", Rows.laid_gong_parse_watchKinds), ("unicode/utf8.first", Rows.laid_unicode_utf8_first)] W := by
    have h2 := h
    rw [MakeChecks.laidMetH_plain _ _ _ (by kernel_rfl)] at h2
    exact h2
  have h5 := hm.tail.tail.tail.tail
  refine ⟨⟨Tryz.laysM145.s1_3 W hS, errOf14 h5.tail (by kernel_rfl) (by kernel_rfl)⟩, errOf14 h5 (by kernel_rfl) (by kernel_rfl), ?_, unitsOf15 h (by kernel_rfl) ?_, kindsOf h (by kernel_rfl) ?_⟩
  · exact laid_tab (zs := Lib.pow10Tab) h (by kernel_rfl) (by rw [← pow_data15]; exact (List.Mem.tail _ (List.Mem.tail _ (List.Mem.head _)))) (by kernel_rfl : Tryz.prog.globalNamed "internal/strconv.uint64pow10" = some 7) (by kernel_rfl : (Tryz.prog.globals[7]?).map (·.type) = some 178) Tryz.underlying178 Tryz.underlying147 (by kernel_rfl) (by kernel_rfl)
  · exact List.Mem.tail _ (List.Mem.tail _ (List.Mem.tail _ (List.Mem.tail _ (List.Mem.tail _ (List.Mem.tail _ (List.Mem.head _))))))
  · exact List.Mem.tail _ (List.Mem.tail _ (List.Mem.tail _ (List.Mem.tail _ (List.Mem.tail _ (List.Mem.tail _ (List.Mem.tail _ (List.Mem.head _)))))))
end Go.Proofs.YtaeglmgpoboihaaGreatDoor
