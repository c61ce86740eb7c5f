/- A number that is read as groups is written as just the bytes that were read, and of two numbers' groups neither begins the other, but if they are the same: gonglaw01.OctetOne answers true at every input, and its arguments read as before. No condition. -/
import Derived.Test.YtkcgddcdgneenaaOctG
import Derived.Test.YtkcgddcdgneenaaOctR
import Derived.Test.YtkcgddcdgneenaaOctW
namespace Go.Proofs.Ytkcgddcdgneenaa
open Go.ChangeShapes Go.WideShapes Go.ChangeAt Go.RowKit P1 K
open Go.ChangeMaps (open_string shut_string)
set_option linter.unusedVariables false

theorem octetOne_big (s : ByteArray) (n m : Int) (hs : 1000 < s.size) (hm : s.size ≤ maxLen) (w : World) :
    Calls Try.prog 6 #[.string s, .int .i64 n, .int .i64 m] w fun e w' => e = .returned (.bool true) ∧ Below w.heap.size w w' := by
  unfold maxLen at hm
  go_enter Try.func6, Try.ntmps6
  go_wp2_with fail
  refine (works_walk _).mono ?_
  rintro e w1 ⟨rfl, hb1⟩
  go_wp2_with fail
  refine (works_walk _).mono ?_
  rintro e w2 ⟨rfl, hb2⟩
  go_wp2
  go_ret
  exact ⟨rfl, hb1.trans (hb2.mono hb1.size)⟩

/-- The last part: two numbers' groups. -/
def tail (N M : Nat) : Bool := decide ((grp N).length ≤ (grp M).length) && ((grp M).take (grp N).length == grp N)
theorem tail_eq (N M : Nat) (hN : N < 9223372036854775808) (hM : M < 9223372036854775808) : tail N M = (((N : Nat) : Int) == ((M : Nat) : Int)) := by
  rw [Bool.eq_iff_iff]
  simp only [tail, Bool.and_eq_true, decide_eq_true_eq, beq_iff_eq]
  constructor
  · rintro ⟨_, h⟩; exact congrArg _ (grp_prefix N M hN hM h)
  · intro h; obtain rfl : N = M := by omega
    exact ⟨Nat.le_refl _, List.take_length⟩

theorem octetOne_ok (l : List UInt8) (n m : Int) (hs : l.length ≤ 1000) (w : World) (hc : (rgo (l.drop 0) 9223372036854775807 9 0 0).2.2 = 0) :
    Calls Try.prog 6 #[.string (bs l), .int .i64 n, .int .i64 m] w fun e w' => e = .returned (.bool true) ∧ Below w.heap.size w w' := by
  have hG := rdG_yes l 0 9223372036854775807 hc
  have hok := rdG_ok l 0 0 9223372036854775807 ⟨by omega, by omega, by omega, by omega⟩
  have hg := rgo_grp0 (l.drop 0) 9223372036854775807 hc
  rw [List.drop_zero] at hG hc hg
  have hw := fun (b T : Nat) (w : World) => rGroups_walk b T l 0 0 9223372036854775807 ⟨by omega, by omega, by omega, by omega⟩ (by omega) (by omega) w
  rw [hG] at hw hok
  generalize (rgo l 9223372036854775807 9 0 0).1 = k at *
  generalize (rgo l 9223372036854775807 9 0 0).2.1 = q at *
  rw [Nat.zero_add] at hw hok
  simp only [] at hw hok
  obtain ⟨ok, hk, _⟩ := hok
  have hql := ok.at_
  have HW := Lib.hid hw; have HG := Lib.hid hg
  have hbn := bits_low63 n
  have hbm := bits_low63 m
  have hN := low63_lt n
  have hM := low63_lt m
  have ht := tail_eq (low63 n) (low63 m) hN hM
  have HT := Lib.hid ht
  clear hw hg hG hc ht
  generalize low63 n = N at *
  generalize low63 m = M at *
  go_enter Try.func6, Try.ntmps6
  go_wp2_with fail
  refine (works_walk _).mono ?_
  rintro e w1 ⟨rfl, hb1⟩
  go_wp2_with fail
  refine (read_walk l _).mono ?_
  rintro e w2 ⟨rfl, kp2, hz2, hr2⟩
  go_wp2_with fail
  refine (HW.out _ _ w2 hr2).mono ?_
  rintro e w3 ⟨rfl, kp3, hr3⟩
  go_wp2_with fail
  refine (code_walk _ _ l q 0 w3 hr3).mono ?_
  rintro e w4 ⟨rfl, rfl⟩
  go_wp2_with fail
  refine (octGroups_nat k hk _).mono ?_
  rintro e w5 ⟨rfl, hb5⟩
  have hr5 : Rdr w5 w1.heap.size 58 l q 0 := by
    unfold Rdr at *
    rw [hb5.block _ (lt_of_block hr3)]; exact hr3
  have e1 : (l.length : Int) - ((l.length - q : Nat) : Int) = (q : Int) := by omega
  have e2 : (grp k == l.take q) = true := by rw [beq_iff_eq]; exact HG.out
  have e3 : (grp k != l.take q) = false := by rw [bne_eq_false_iff_eq]; exact HG.out
  have KP : Kp [w1.heap.size] w w5 := (((Kp.ofBelow hb1 _).trans (kp2.mono (by simp))).trans kp3).trans (Kp.ofBelow hb5 _)
  clear kp2 kp3 hb5 hz2 hr2 hr3
  go_wp2_with fail
  refine (left_walk _ _ l q 0 ok w5 hr5).mono ?_
  rintro e w6 ⟨rfl, d, rfl⟩
  go_wp2_with fail
  refine (octGroups_nat N hN _).mono ?_
  rintro e w7 ⟨rfl, hb7⟩
  go_wp2_with fail
  refine (octGroups_nat M hM _).mono ?_
  rintro e w8 ⟨rfl, hb8⟩
  have KP2 : Kp [w1.heap.size] w w8 := ((KP.drewN d).trans (Kp.ofBelow hb7 _)).trans (Kp.ofBelow hb8 _)
  have KB : Below w.heap.size w w8 := KP2.below (Nat.le_refl _) (by intro x hx; simp at hx; subst hx; exact hb1.size)
  clear KP KP2 hb7 hb8 hr5 hb1 e1 e2 e3 HW
  by_cases hNM : N = M
  · subst hNM
    have f1 : (grp N).take (grp N).length = grp N := List.take_length
    go_wp2
    go_ret
    exact ⟨rfl, KB⟩
  · have f0 : ((N : Int) == (M : Int)) = false := by rw [beq_eq_false_iff_ne]; omega
    have ht := HT.out
    rw [f0] at ht
    have HNM := Lib.hid hNM
    clear hNM
    by_cases hl : (grp N).length ≤ (grp M).length
    · have f1 : ((grp M).take (grp N).length == grp N) = false := by
        simpa [tail, hl] using ht
      clear ht
      go_wp2
      go_ret
      exact ⟨rfl, KB⟩
    · clear ht
      go_wp2
      go_ret
      exact ⟨rfl, KB⟩

theorem octetOne_bad (l : List UInt8) (n m : Int) (hs : l.length ≤ 1000) (w : World) (hc : ¬ (rgo (l.drop 0) 9223372036854775807 9 0 0).2.2 = 0) :
    Calls Try.prog 6 #[.string (bs l), .int .i64 n, .int .i64 m] w fun e w' => e = .returned (.bool true) ∧ Below w.heap.size w w' := by
  have hG := rdG_no l 0 9223372036854775807 hc
  have hok := rdG_ok l 0 0 9223372036854775807 ⟨by omega, by omega, by omega, by omega⟩
  have hw := fun (b T : Nat) (w : World) => rGroups_walk b T l 0 0 9223372036854775807 ⟨by omega, by omega, by omega, by omega⟩ (by omega) (by omega) w
  rw [hG] at hw hok
  generalize (rgo (l.drop 0) 9223372036854775807 9 0 0).2.2 = c at *
  simp only [] at hw hok
  obtain ⟨ok, _, _⟩ := hok
  have HW := Lib.hid hw
  have hbn := bits_low63 n
  have hbm := bits_low63 m
  have hN := low63_lt n
  have hM := low63_lt m
  have ht := tail_eq (low63 n) (low63 m) hN hM
  have HT := Lib.hid ht
  have hcf : (c == 0) = false := by rw [beq_eq_false_iff_ne]; exact hc
  clear hw hG hc ht
  generalize low63 n = N at *
  generalize low63 m = M at *
  go_enter Try.func6, Try.ntmps6
  go_wp2_with fail
  refine (works_walk _).mono ?_
  rintro e w1 ⟨rfl, hb1⟩
  go_wp2_with fail
  refine (read_walk l _).mono ?_
  rintro e w2 ⟨rfl, kp2, hz2, hr2⟩
  go_wp2_with fail
  refine (HW.out _ _ w2 hr2).mono ?_
  rintro e w3 ⟨rfl, kp3, hr3⟩
  go_wp2_with fail
  refine (code_walk _ _ l 0 c w3 hr3).mono ?_
  rintro e w4 ⟨rfl, rfl⟩
  have KP : Kp [w1.heap.size] w w3 := ((Kp.ofBelow hb1 _).trans (kp2.mono (by simp))).trans kp3
  clear kp2 kp3 hz2 hr2
  go_wp2_with fail
  refine (left_walk _ _ l 0 c ok w3 hr3).mono ?_
  rintro e w6 ⟨rfl, d, rfl⟩
  go_wp2_with fail
  refine (octGroups_nat N hN _).mono ?_
  rintro e w7 ⟨rfl, hb7⟩
  go_wp2_with fail
  refine (octGroups_nat M hM _).mono ?_
  rintro e w8 ⟨rfl, hb8⟩
  have KP2 : Kp [w1.heap.size] w w8 := ((KP.drewN d).trans (Kp.ofBelow hb7 _)).trans (Kp.ofBelow hb8 _)
  have KB : Below w.heap.size w w8 := KP2.below (Nat.le_refl _) (by intro x hx; simp at hx; subst hx; exact hb1.size)
  clear KP KP2 hb7 hb8 hr3 hb1 HW
  by_cases hNM : N = M
  · subst hNM
    have f1 : (grp N).take (grp N).length = grp N := List.take_length
    go_wp2
    go_ret
    exact ⟨rfl, KB⟩
  · have f0 : ((N : Int) == (M : Int)) = false := by rw [beq_eq_false_iff_ne]; omega
    have ht := HT.out
    rw [f0] at ht
    have HNM := Lib.hid hNM
    clear hNM
    by_cases hl : (grp N).length ≤ (grp M).length
    · have f1 : ((grp M).take (grp N).length == grp N) = false := by
        simpa [tail, hl] using ht
      clear ht
      go_wp2
      go_ret
      exact ⟨rfl, KB⟩
    · clear ht
      go_wp2
      go_ret
      exact ⟨rfl, KB⟩

namespace octetOne
theorem own : ownKnob Try.prog.godebug = none := by kernel_rfl
theorem walk (s : ByteArray) (hs : s.size ≤ maxLen) (n : Int) (wn : (Lit.int .i64 n).wf = true) (m : Int) (wm : (Lit.int .i64 m).wf = true) (w : World) :
    Calls Try.prog 6 #[.string s, .int .i64 n, .int .i64 m] w fun e w' => e = .returned (.bool true) ∧ Below w.heap.size w w' := by
  rcases Nat.lt_or_ge 1000 s.size with h | h
  · exact octetOne_big s n m h hs w
  · obtain ⟨l, rfl⟩ : ∃ l, s = bs l := ⟨s.data.toList, (bs_of s).symm⟩
    rw [bs_size] at h
    by_cases hc : (rgo (l.drop 0) 9223372036854775807 9 0 0).2.2 = 0
    · exact octetOne_ok l n m h w hc
    · exact octetOne_bad l n m h w hc

/-! ### The row's step -/
set_option maxRecDepth 100000 in
theorem lifted (os : Os) (started : os.Started) (H : Type) (enc : TypeId × Value → H) :
    ReturnsInHanded {} Try.checked os 6 .any (Rows.octetOneSpec.pre6 enc Try.prog Try.f6 Rows.octetOneRow.domain false) (Rows.octetOneSpec.post enc Try.prog Try.f6 false true false false) := by
  refine returnsInHanded_of_change (C := Try.checked) own started (by kernel_rfl) Try.func6
    (ChangeSpec.witness6 (enc := enc) (C := Try.checked) false ⟨#[], #[.string ByteArray.empty, .int .i64 0, .int .i64 0], []⟩ 8 (by kernel_rfl) (by kernel_rfl) (by kernel_rfl) (by kernel_rfl)) ?_
  intro W base args ds gs before hval0 hW hcnd _
  have hval : ∀ (j : Nat) t v, Try.f6.params[j]? = some t → args[j]? = some v → Value.okWide Try.prog W .any base t v := hval0
  have hW' := hW
  obtain ⟨p, q, hA0, hV, rfl, hfz, hnd⟩ := hW
  have hA : DataW.TrodAll enc Try.prog W 0 (fun _ => true) true Try.f6.params.toList args.toList ds p := hA0
  rw [Try.params6] at hA hval
  obtain ⟨v0, vs0, d0, ds0, p0, q0, hargs, rfl, rfl, h0, r0⟩ := trodAll_cons hA
  obtain ⟨v1, vs1, d1, ds1, p1, q1, rfl, rfl, rfl, h1, r1⟩ := trodAll_cons r0
  obtain ⟨v2, vs2, d2, ds2, p2, q2, rfl, rfl, rfl, h2, r2⟩ := trodAll_cons r1
  obtain ⟨rfl, rfl, rfl⟩ := trodAll_nil r2
  obtain rfl : args = #[v0, v1, v2] := by cases args; simp_all
  obtain ⟨rfl, rfl⟩ := trodVars_none hV
  obtain ⟨a0, rfl, rfl, rfl, w0⟩ := open_string Try.underlying9 (hval 0 9 v0 rfl rfl) h0
  obtain ⟨a1, rfl, rfl, rfl, w1⟩ := open_int Try.underlying3 (hval 1 3 v1 rfl rfl) h1
  obtain ⟨a2, rfl, rfl, rfl, w2⟩ := open_int Try.underlying3 (hval 2 3 v2 rfl rfl) h2
  clear hA0 hval0
  refine (walk a0 w0 a1 w1 a2 w2 W).mono fun e W' ⟨he, bel⟩ => ?_
  subst he
  simp only [List.append_nil] at hW'
  exact ⟨_, rfl, _, _, _, [], [], [], hW', trodAll_mk1 (shut_bool Try.underlying4 _), (trodAll_cons_mk (shut_string Try.underlying9 w0) (trodAll_cons_mk (shut_int Try.underlying3 w1) (trodAll_cons_mk (shut_int Try.underlying3 w2) trodAll_mk0))), rfl, bel.frame _, fun h => by cases h⟩

theorem over : Rows.octetOneRow.holds Try.pinned (OpenSpec.ofChange Rows.octetOneSpec) :=
  OpenClaim.holds_of_wide 6 Try.f6 rfl rfl rfl rfl rfl rfl rfl ⟨rfl, rfl, rfl, rfl, rfl⟩ rfl rfl rfl rfl rfl (by kernel_rfl) Try.func6 (by kernel_rfl)
    (of_decide_eq_true (by kernel_rfl)) (by unfold Func.isWrapper; first | (rw [if_pos (by decide +kernel)]; kernel_rfl) | (rw [if_neg (by decide +kernel)]; exact ⟨rfl, rfl⟩))
    (fun os started H enc _ => lifted os started H enc)

theorem proved : Rows.OctetOneSaid := over
#print axioms proved
end octetOne
end Go.Proofs.Ytkcgddcdgneenaa
