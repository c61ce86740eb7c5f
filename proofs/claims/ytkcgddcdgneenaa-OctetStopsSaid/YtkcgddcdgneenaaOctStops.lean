/- Once a reader is refused it stays where it is: gonglaw01.OctetStops answers true at every input, and its arguments read as before. No condition. -/
import Derived.Test.YtkcgddcdgneenaaOctG
import Derived.Test.YtkcgddcdgneenaaOctW
import Derived.Test.YtkcgddcdgneenaaOctAsk
import Derived.Test.YtkcgddcdgneenaaBook
namespace Go.Proofs.Ytkcgddcdgneenaa
open Go.ChangeShapes Go.WideShapes Go.ChangeAt Go.RowKit P1 K
open Go.ChangeMaps (open_string shut_string)
set_option linter.unusedVariables false

/-- A reader with a code: nothing is read. -/
theorem rGroups_bad (b T : Nat) (s : List UInt8) (p : Nat) (c most : Int) (ok : Ok s p c) (hc : 0 < c) (h0 : -9223372036854775808 ≤ most) (h1 : most ≤ 9223372036854775807) (w : World) (h : Rdr w b T s p c) :
    Calls Try.prog 23 #[.pointer (some ⟨b, 0, none⟩), .int .i64 most] w fun e w' => e = .returned (.int .i64 0) ∧ Kp [b] w w' ∧ Rdr w' b T s p c := by
  have := rGroups_walk b T s p c most ok h0 h1 w h
  rwa [rdG_bad s p c most (by omega)] at this
theorem rWide_bad (b T : Nat) (s : List UInt8) (p : Nat) (c k : Int) (ok : Ok s p c) (hc : 0 < c) (w : World) (h : Rdr w b T s p c) :
    Calls Try.prog 24 #[.pointer (some ⟨b, 0, none⟩), .int .i64 k] w fun e w' => e = .returned (.int .i64 0) ∧ Kp [b] w w' ∧ Rdr w' b T s p c := by
  have := rWide_walk b T s p c k ok w h
  rwa [rdW_bad s p c k (by omega)] at this
theorem rText_bad (b T : Nat) (s : List UInt8) (p : Nat) (c n : Int) (ok : Ok s p c) (hc : 0 < c) (h0 : -9223372036854775808 ≤ n) (h1 : n ≤ 9223372036854775807) (w : World) (h : Rdr w b T s p c) :
    Calls Try.prog 25 #[.pointer (some ⟨b, 0, none⟩), .int .i64 n] w fun e w' => e = .returned (.string (bs [])) ∧ Kp [b] w w' ∧ Rdr w' b T s p c := by
  have := rText_walk b T s p c n ok h0 h1 w h
  rwa [rdT_sz, rdG_bad s p c n (by omega), szR_bad _ _ _ _ _ (by show ¬ c = 0; omega)] at this
theorem rBytes_bad (b T : Nat) (s : List UInt8) (p : Nat) (c n : Int) (ok : Ok s p c) (hc : 0 < c) (h0 : -9223372036854775808 ≤ n) (h1 : n ≤ 9223372036854775807) (w : World) (h : Rdr w b T s p c) :
    Calls Try.prog 28 #[.pointer (some ⟨b, 0, none⟩), .int .i64 n] w fun e w' => e = .returned (.string (bs [])) ∧ Kp [b] w w' ∧ Rdr w' b T s p c := by
  have := rBytes_walk b T s p c n ok h0 h1 w h
  rwa [rdB_bad s p c n (by omega)] at this

def SRel (w : World) (B : Nat) (l : List UInt8) (d : Int) (vi : Value) (wr : World) : Prop :=
  ∃ i : Nat, i ≤ 40 ∧ vi = .int .i64 i ∧ Kp [B] w wr ∧ Rdr wr B 58 l 0 d

set_option maxRecDepth 100000 in
theorem octetStops_walk (l : List UInt8) (c : Int) (ao : Option Addr) (len cap : Nat) (hs : l.length ≤ 140737488351232) (h0 : -9223372036854775808 ≤ c) (h1 : c ≤ 9223372036854775807) (w : World) (ha : Asks w ao len) :
    Calls Try.prog 7 #[.string (bs l), .int .i64 c, .slice ao len cap] w fun e w' => e = .returned (.bool true) ∧ Below w.heap.size w w' := by
  have HA := Lib.hid ha; clear ha
  go_enter Try.func7, Try.ntmps7
  go_wp2_with fail
  refine (works_walk _).mono ?_
  rintro e w1 ⟨rfl, hb1⟩
  go_wp2_with fail
  refine (read_walk l _).mono ?_
  rintro e w2 ⟨rfl, kp2, hz2, hr2⟩
  go_wp2_with fail
  refine (below_walk c 300 h0 h1 (by omega) (by omega) w2).mono ?_
  rintro e w3 ⟨rfl, rfl⟩
  have hbd := belowN_bounds c 300 (by omega)
  obtain ⟨d, hd⟩ : ∃ d, belowN c 300 = d := ⟨_, rfl⟩
  rw [hd] at hbd
  rw [hd]
  clear hd
  obtain ⟨hd0, hd1⟩ := hbd
  go_wp2_with fail
  refine (refuse_walk _ _ l 0 0 (1 + d) w2 hr2).mono ?_
  rintro e w4 ⟨rfl, kp4, hr4⟩
  rw [newc_zero] at hr4
  have ok : Ok l 0 (1 + d) := ⟨hs, by omega, by omega, by omega⟩
  have KP : Kp [w1.heap.size] w w4 := ((Kp.ofBelow hb1 _).trans (kp2.mono (by simp))).trans kp4
  have hB : w.heap.size ≤ w1.heap.size := hb1.size
  clear hb1 kp2 hz2 hr2 kp4
  go_wp2_with fail
  refine (left_walk _ _ l 0 (1 + d) ok w4 hr4).mono ?_
  rintro e w5 ⟨rfl, n, rfl⟩
  have hsub : l.length - 0 = l.length := rfl
  rw [hsub]
  clear hsub
  have KP5 := KP.drewN n
  have hr5 : Rdr (w4.drewN n) w1.heap.size 58 l 0 (1 + d) := hr4
  clear KP hr4
  generalize w4.drewN n = w5 at *
  generalize w1.heap.size = B at *
  go_wp2
  go_loopw [10] (fun vi wr => SRel w B l (1 + d) vi wr) (fun vi wr => 40 - (intOf vi).toNat)
  case atStart => exact ⟨0, by omega, rfl, KP5, hr5⟩
  case round =>
    obtain ⟨i, hi, rfl, KR, hrr⟩ := hrel
    clear KP5 hr5
    obtain ⟨hlen, hel⟩ := HA.out
    by_cases hlt : i < len ∧ i < 40
    · obtain ⟨hlt, h40⟩ := hlt
      rcases hel with h | ⟨b, off, f, rfl, hrow, hty⟩
      · omega
      · obtain ⟨x, y, hx, hy, _, _, hy0, hy1⟩ := hty i hlt
        have hne : b ≠ B := by have := hrow.1; omega
        have hrow' : Row wr b off (len * 2) f := hrow.kept (KR.block b hrow.1 (by simp; exact hne)) KR.size
        have hcell := hrow'.2 (i * 2 + 1) (by omega)
        rw [hy, ← Nat.add_assoc] at hcell
        clear hx hy hty hrow' hrow
        go_wp2_with fail
        refine (rGroups_bad _ _ l 0 (1 + d) y ok (by omega) hy0 hy1 wr hrr).mono ?_
        rintro e x1 ⟨rfl, k1, r1⟩
        have K1 := KR.trans k1
        clear hcell hrr KR k1
        go_wp2_with fail
        refine (rWide_bad _ _ l 0 (1 + d) y ok (by omega) x1 r1).mono ?_
        rintro e x2 ⟨rfl, k2, r2⟩
        have K2 := K1.trans k2
        clear r1 K1 k2
        go_wp2_with fail
        refine (rText_bad _ _ l 0 (1 + d) y ok (by omega) hy0 hy1 x2 r2).mono ?_
        rintro e x3 ⟨rfl, k3, r3⟩
        have K3 := K2.trans k3
        clear r2 K2 k3
        go_wp2_with fail
        refine (rBytes_bad _ _ l 0 (1 + d) y ok (by omega) hy0 hy1 x3 r3).mono ?_
        rintro e x4 ⟨rfl, k4, r4⟩
        have K4 := K3.trans k4
        clear r3 K3 k4
        go_wp2_with fail
        refine (refuse_walk _ _ l 0 (1 + d) 10 x4 r4).mono ?_
        rintro e x5 ⟨rfl, k5, r5⟩
        rw [newc_not _ _ (by omega)] at r5
        have K5 := K4.trans k5
        clear r4 K4 k5
        go_wp2
        go_roundw
        case measure => simp [intOf]; omega
        case rel => exact ⟨i + 1, by omega, by simp, K5, r5⟩
    · clear hel hlen
      have KB : ∀ m, Below w.heap.size w (wr.drewN m) := fun m => (KR.drewN m).below (Nat.le_refl _) (by intro x hx; simp at hx; subst hx; exact hB)
      have HK := Lib.hid KB; clear KB
      have htest : i < len → (40 : Int) ≤ i := fun h => by omega
      have hend : (i < len ∧ (40 : Int) ≤ i) ∨ (len : Int) ≤ i := by omega
      clear hlt htest
      have hcd : ((1 + d) == 0) = false := by rw [beq_eq_false_iff_ne]; omega
      have hdone : rdD l 0 (1 + d) = 1 + d := by simp [rdD, show ¬ 1 + d = 0 by omega]
      have hdn := rDone_walk B 58 l 0 (1 + d) ok
      rw [hdone] at hdn
      have HD := Lib.hid hdn
      clear hdone hdn
      rcases hend with ⟨he1, he2⟩ | he1
      all_goals
        go_wp2_with fail
        refine (left_walk _ _ l 0 (1 + d) ok wr hrr).mono ?_
        rintro e y1 ⟨rfl, n1, rfl⟩
        rw [show l.length - 0 = l.length from rfl]
        go_wp2_with fail
        refine (code_walk _ _ l 0 (1 + d) (wr.drewN n1) hrr).mono ?_
        rintro e y2 ⟨rfl, rfl⟩
        go_wp2_with fail
        refine (HD.out (wr.drewN n1) hrr).mono ?_
        rintro e y3 ⟨rfl, n3, rfl⟩
        go_wp2
        go_ret
        exact ⟨rfl, HK.out _⟩

namespace octetStops
theorem own : ownKnob Try.prog.godebug = none := by kernel_rfl
theorem laidOut : laidOutB Try.prog = true := by kernel_rfl
theorem walk (l : List UInt8) (hl : l.length ≤ reachBytes) (c : Int) (wc : (Lit.int .i64 c).wf = true) (v : Value) {B : Nat} {w : World} (g : Rdg Try.prog w 29 v.cells.toList) (ok : Value.okWide Try.prog w .any B 29 v) (w' : World) (hw : w = w') :
    Calls Try.prog 7 #[.string (bs l), .int .i64 c, v] w fun e w' => e = .returned (.bool true) ∧ Below w.heap.size w w' := by
  obtain ⟨ao, len, cap, rfl, ha⟩ := asks_of g ok
  have b := bounds_i64 wc
  exact octetStops_walk l c ao len cap (by unfold reachBytes at hl; omega) b.1 b.2 w ha

/-! ### The row's step -/
set_option maxRecDepth 100000 in
theorem lifted (os : Os) (started : os.Started) (H : Type) (enc : TypeId × Value → H) :
    ReturnsInHanded {} Try.checked os 7 .any (Rows.octetStopsSpec.pre6 enc Try.prog Try.f7 Rows.octetStopsRow.domain false) (Rows.octetStopsSpec.post enc Try.prog Try.f7 false true false false) := by
  refine returnsInHanded_of_change_sized (C := Try.checked) own started (by kernel_rfl) Try.func7
    (ChangeSpec.witness6 (enc := enc) (C := Try.checked) false ⟨#[], #[.string ByteArray.empty, .int .i64 0, .slice none 0 0], []⟩ 8 (by kernel_rfl) (by kernel_rfl) (by kernel_rfl) (by kernel_rfl)) ?_
  intro W base args ds gs before hval0 hW hcnd hsz0 _
  have hval : ∀ (j : Nat) t v, Try.f7.params[j]? = some t → args[j]? = some v → Value.okWide Try.prog W .any base t v := hval0
  have hW' := hW
  obtain ⟨p, q, hA0, hV, rfl, hfz, hnd⟩ := hW
  have hA : DataW.TrodAll enc Try.prog W 0 (fun _ => true) true Try.f7.params.toList args.toList ds p := hA0
  have hsz : (DataW.weightsEach Try.prog (Try.f7.params.toList ++ Rows.octetStopsSpec.plain.varTypes Try.prog) (ds ++ gs)).all (· ≤ reachBytes) = true := hsz0
  rw [Try.params7] at hA hval hsz
  obtain ⟨v0, vs0, d0, ds0, p0, q0, hargs, rfl, rfl, h0, r0⟩ := trodAll_cons hA
  obtain ⟨v1, vs1, d1, ds1, p1, q1, rfl, rfl, rfl, h1, r1⟩ := trodAll_cons r0
  obtain ⟨v2, vs2, d2, ds2, p2, q2, rfl, rfl, rfl, h2, r2⟩ := trodAll_cons r1
  obtain ⟨rfl, rfl, rfl⟩ := trodAll_nil r2
  obtain rfl : args = #[v0, v1, v2] := by cases args; simp_all
  obtain ⟨rfl, rfl⟩ := trodVars_none hV
  have k0 := h0
  obtain ⟨a0, rfl, rfl, rfl, w0⟩ := open_string Try.underlying9 (hval 0 9 v0 rfl rfl) h0
  obtain ⟨l0, e0, b0⟩ := (Rdg.of k0 hsz (j := 0) rfl rfl).string Try.underlying9
  obtain rfl : a0 = bs l0 := by simpa [Value.cells] using e0
  obtain ⟨a1, rfl, rfl, rfl, w1⟩ := open_int Try.underlying3 (hval 1 3 v1 rfl rfl) h1
  have k2 := h2
  have lt2 : ∀ x ∈ p2, x.block < W.heap.size := by obtain ⟨m, hm⟩ := k2; exact DataW.trod_lt m _ _ _ hm
  have ok2 := hval 2 29 v2 rfl rfl
  have g2 := Rdg.of k2 hsz (j := 2) rfl rfl
  clear hA0 hval0 hsz0
  refine (walk l0 b0 a1 w1 v2 g2 ok2 W rfl).mono fun e W' ⟨he, bel⟩ => ?_
  subst he
  exact ⟨_, rfl, _, _, _, [], _, [], hW', trodAll_mk1 (shut_bool Try.underlying4 _), (trodAll_cons_mk (shut_string Try.underlying9 w0) (trodAll_cons_mk (shut_int Try.underlying3 w1) (trodAll_cons_mk (Below.trod laidOut (by kernel_rfl) (of_decide_eq_true (by kernel_rfl)) k2 bel lt2) trodAll_mk0))), rfl, bel.frame _, fun h => by cases h⟩

theorem over : Rows.octetStopsRow.holds Try.pinned (OpenSpec.ofChange Rows.octetStopsSpec) :=
  OpenClaim.holds_of_wide 7 Try.f7 rfl rfl rfl rfl rfl rfl rfl ⟨rfl, rfl, rfl, rfl, rfl⟩ rfl rfl rfl rfl rfl (by kernel_rfl) Try.func7 (by kernel_rfl)
    (of_decide_eq_true (by kernel_rfl)) (by unfold Func.isWrapper; first | (rw [if_pos (by decide +kernel)]; kernel_rfl) | (rw [if_neg (by decide +kernel)]; exact ⟨rfl, rfl⟩))
    (fun os started H enc _ => lifted os started H enc)

theorem proved : Rows.OctetStopsSaid := over
#print axioms proved
end octetStops
end Go.Proofs.Ytkcgddcdgneenaa
