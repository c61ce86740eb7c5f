/- Whatever is asked of a reader of any bytes, it answers, stands, and is refused, as the document has it: gonglaw01.OctetReads answers true at every input, and its arguments read as before. No condition. -/
import Derived.Test.YtkcgddcdgneenaaOctReads
import Derived.Test.YtkcgddcdgneenaaOctAsk
import Derived.Deep.RegionWith
namespace Go.Proofs.Ytkcgddcdgneenaa
open Go.ChangeShapes Go.WideShapes Go.ChangeAt Go.RowKit P1 K
open Go.ChangeMaps (open_string shut_string)
set_option linter.unusedVariables false

def LRel (w : World) (b1 b2 : Nat) (l : List UInt8) (vi : Value) (wr : World) : Prop :=
  ∃ (i p : Nat) (c : Int), i ≤ 40 ∧ vi = .int .i64 i ∧ Ok l p c ∧ Kp [b1, b2] w wr ∧ Rdr wr b1 58 l p c ∧ Rdr wr b2 34 l p c

set_option maxRecDepth 100000 in
set_option maxHeartbeats 4000000 in
theorem octetReads_small (l : List UInt8) (ao : Option Addr) (len cap : Nat) (hs : l.length ≤ 5000) (w : World) (ha : Asks w ao len) :
    Calls Try.prog 4 #[.string (bs l), .slice ao len cap] w fun e w' => e = .returned (.bool true) ∧ Below w.heap.size w w' := by
  have HA := Lib.hid ha; clear ha
  go_enter Try.func4, Try.ntmps4
  go_wp2_with fail
  refine (read_walk l _).mono ?_
  rintro e w2 ⟨rfl, kp2, hz2, hr2⟩
  go_wp2_with fail
  have q1 : Rdr (w2.alloc (Obj.cells #[Value.string (bs l), Value.int IntKind.i64 0, Value.int IntKind.i64 0] 34)) w.heap.size 58 l 0 0 := ((Kp.refl [] w2).alloc _).heap hr2 (by simp)
  have q2 : Rdr (w2.alloc (Obj.cells #[Value.string (bs l), Value.int IntKind.i64 0, Value.int IntKind.i64 0] 34)) w2.heap.size 34 l 0 0 := rowNew _ _
  have q3 : Kp [w.heap.size, w2.heap.size] w (w2.alloc (Obj.cells #[Value.string (bs l), Value.int IntKind.i64 0, Value.int IntKind.i64 0] 34)) := (kp2.mono (by simp)).alloc _
  rw [hz2] at q2 q3
  clear kp2 hr2 hz2
  generalize w2.alloc (Obj.cells #[Value.string (bs l), Value.int IntKind.i64 0, Value.int IntKind.i64 0] 34) = w3 at *
  refine (works_walk _).mono ?_
  rintro e w4 ⟨rfl, hb4⟩
  have Q1 : Rdr w4 w.heap.size 58 l 0 0 := (Kp.ofBelow hb4 []).heap q1 (by simp)
  have Q2 : Rdr w4 (w.heap.size + 1) 34 l 0 0 := (Kp.ofBelow hb4 []).heap q2 (by simp)
  have Q3 := q3.trans (Kp.ofBelow hb4 _)
  clear q1 q2 q3 hb4
  go_wp2
  go_loopw [7] (fun vi wr => LRel w w.heap.size (w.heap.size + 1) l vi wr) (fun vi wr => 40 - (intOf vi).toNat)
  case atStart => exact ⟨0, 0, 0, by omega, rfl, ⟨by omega, by omega, by omega, by omega⟩, Q3, Q1, Q2⟩
  case round =>
    obtain ⟨i, p, c, hi, rfl, ok, KR, r1, r2⟩ := hrel
    clear Q1 Q2 Q3
    obtain ⟨hlen, hel⟩ := HA.out
    have hne : w.heap.size ≠ w.heap.size + 1 := by omega
    by_cases hlt : i < len ∧ i < 40
    · obtain ⟨hlt, h40⟩ := hlt
      rcases hel with h | ⟨b, off, f, rfl, hrow, hty⟩
      · omega
      · obtain ⟨x, y, hx, hy, hx0, hx1, hy0, hy1⟩ := hty i hlt
        have hbw := hrow.1
        have hrow' : Row wr b off (len * 2) f := hrow.kept (KR.block b hrow.1 (by simp; omega)) KR.size
        have hc0 := hrow'.2 (i * 2) (by omega)
        have hc1 := hrow'.2 (i * 2 + 1) (by omega)
        rw [hx, ] at hc0
        rw [hy, ← Nat.add_assoc] at hc1
        clear hx hy hty hrow' hrow
        have ok' := stp_ok l p c x y ok
        have R1 := Lib.hid r1; have R2 := Lib.hid r2
        clear r1 r2
        have HST := Lib.hid (asked_walk w.heap.size (w.heap.size + 1) l p c x y ok hx0 hx1 hy0 hy1 hne)
        obtain ⟨p', c', hst⟩ : ∃ p' c', stp l p c x y = (p', c') := ⟨_, _, rfl⟩
        rw [hst] at HST ok'
        simp only [] at HST ok'
        clear hst
        go_wp2_with fail
        clear hne hbw hlen
        go_region_with (first
          | (go_at_call 16; refine (HST.out _ ?_ ?_).mono ?_; exact R1.out; exact R2.out; rintro e x1 ⟨rfl, k1, t1, t2⟩; have T1 := Lib.hid t1; have T2 := Lib.hid t2; have c2 := (t2.cells).2.2.1; clear t1 t2)
          | (go_at_call 17; refine (left_walk _ 58 l p' c' ok' _ ?_).mono ?_; exact T1.out; rintro e x2 ⟨rfl, n2, rfl⟩)
          | (go_at_call 18; refine (qLeft_walk _ 34 l p' c' ok' _ ?_).mono ?_; exact T2.out; rintro e x3 ⟨rfl, n3, rfl⟩)
          | (go_at_call 19; refine (code_walk _ 58 l p' c' _ ?_).mono ?_; exact T1.out; rintro e x4 ⟨rfl, rfl⟩)
          | (go_at_call 20; refine (rDone_walk _ 58 l p' c' ok' _ ?_).mono ?_; exact T1.out; rintro e x5 ⟨rfl, n5, rfl⟩)
          | (go_at_call 21; refine (qDone_walk _ 34 l p' c' ok' _ ?_).mono ?_; exact T2.out; rintro e x6 ⟨rfl, n6, rfl⟩))
        all_goals
          go_wp2
          go_roundw
          case measure => simp [intOf]; omega
          case rel => exact ⟨i + 1, p', c', by omega, by simp, ok', (KR.trans k1.ofDrew).drewN _, T1.out, T2.out⟩
    · have KB : ∀ m, Below w.heap.size w (wr.drewN m) := fun m => (KR.drewN m).below (Nat.le_refl _) (by intro x hx; simp at hx; omega)
      have HK := Lib.hid KB
      have hend : (i < len ∧ (40 : Int) ≤ i) ∨ (len : Int) ≤ i := by omega
      have c2 := r2.cells.2.2.1
      have R1 := Lib.hid r1; have R2 := Lib.hid r2
      clear hlt KB hel hlen hne r1 r2 KR
      rcases hend with ⟨he1, he2⟩ | he1
      all_goals
        go_wp2_with fail
        go_quiet ((first
          | (go_at_call 17; refine Calls.quiet_of (left_walk _ 58 l p c ok _ ?_); exact R1.out)
          | (go_at_call 18; refine Calls.quiet_of (qLeft_walk _ 34 l p c ok _ ?_); exact R2.out)
          | (go_at_call 19; refine Calls.quiet_mk (code_walk _ 58 l p c _ ?_); exact R1.out)
          | (go_at_call 20; refine Calls.quiet_of (rDone_walk _ 58 l p c ok _ ?_); exact R1.out)
          | (go_at_call 21; refine Calls.quiet_of (qDone_walk _ 34 l p c ok _ ?_); exact R2.out)))
        go_wp2
        go_ret
        exact ⟨rfl, HK.out _⟩

theorem octetReads_big (l : List UInt8) (ao : Option Addr) (len cap : Nat) (hs : 5000 < l.length) (hs2 : l.length ≤ 140737488351232) (w : World) :
    Calls Try.prog 4 #[.string (bs l), .slice ao len cap] w fun e w' => e = .returned (.bool true) ∧ Below w.heap.size w w' := by
  go_enter Try.func4, Try.ntmps4
  go_wp2_with fail
  refine (works_walk _).mono ?_
  rintro e w4 ⟨rfl, hb4⟩
  go_wp2
  go_ret
  exact ⟨rfl, hb4⟩

namespace octetReads
theorem own : ownKnob Try.prog.godebug = none := by kernel_rfl
theorem laidOut : laidOutB Try.prog = true := by kernel_rfl
theorem walk (l : List UInt8) (hl : l.length ≤ reachBytes) (v : Value) {B : Nat} {w : World} (g : Rdg Try.prog w 29 v.cells.toList) (ok : Value.okWide Try.prog w .any B 29 v) (w' : World) (hw : w = w') :
    Calls Try.prog 4 #[.string (bs l), v] w fun e w' => e = .returned (.bool true) ∧ Below w.heap.size w w' := by
  obtain ⟨ao, len, cap, rfl, ha⟩ := asks_of g ok
  rcases Nat.lt_or_ge 5000 l.length with h | h
  · exact octetReads_big l ao len cap h (by unfold reachBytes at hl; omega) w
  · exact octetReads_small l ao len cap h w ha

/-! ### The row's step -/
set_option maxRecDepth 100000 in
theorem lifted (os : Os) (started : os.Started) (H : Type) (enc : TypeId × Value → H) :
    ReturnsInHanded {} Try.checked os 4 .any (Rows.octetReadsSpec.pre6 enc Try.prog Try.f4 Rows.octetReadsRow.domain false) (Rows.octetReadsSpec.post enc Try.prog Try.f4 false true false false) := by
  refine returnsInHanded_of_change_sized (C := Try.checked) own started (by kernel_rfl) Try.func4
    (ChangeSpec.witness6 (enc := enc) (C := Try.checked) false ⟨#[], #[.string ByteArray.empty, .slice none 0 0], []⟩ 8 (by kernel_rfl) (by kernel_rfl) (by kernel_rfl) (by kernel_rfl)) ?_
  intro W base args ds gs before hval0 hW hcnd hsz0 _
  have hval : ∀ (j : Nat) t v, Try.f4.params[j]? = some t → args[j]? = some v → Value.okWide Try.prog W .any base t v := hval0
  have hW' := hW
  obtain ⟨p, q, hA0, hV, rfl, hfz, hnd⟩ := hW
  have hA : DataW.TrodAll enc Try.prog W 0 (fun _ => true) true Try.f4.params.toList args.toList ds p := hA0
  have hsz : (DataW.weightsEach Try.prog (Try.f4.params.toList ++ Rows.octetReadsSpec.plain.varTypes Try.prog) (ds ++ gs)).all (· ≤ reachBytes) = true := hsz0
  rw [Try.params4] at hA hval hsz
  obtain ⟨v0, vs0, d0, ds0, p0, q0, hargs, rfl, rfl, h0, r0⟩ := trodAll_cons hA
  obtain ⟨v1, vs1, d1, ds1, p1, q1, rfl, rfl, rfl, h1, r1⟩ := trodAll_cons r0
  obtain ⟨rfl, rfl, rfl⟩ := trodAll_nil r1
  obtain rfl : args = #[v0, v1] := by cases args; simp_all
  obtain ⟨rfl, rfl⟩ := trodVars_none hV
  have k0 := h0
  obtain ⟨a0, rfl, rfl, rfl, w0⟩ := open_string Try.underlying9 (hval 0 9 v0 rfl rfl) h0
  obtain ⟨l0, e0, b0⟩ := (Rdg.of k0 hsz (j := 0) rfl rfl).string Try.underlying9
  obtain rfl : a0 = bs l0 := by simpa [Value.cells] using e0
  have k1 := h1
  have lt1 : ∀ x ∈ p1, x.block < W.heap.size := by obtain ⟨m, hm⟩ := k1; exact DataW.trod_lt m _ _ _ hm
  have ok1 := hval 1 29 v1 rfl rfl
  have g1 := Rdg.of k1 hsz (j := 1) rfl rfl
  clear hA0 hval0 hsz0
  refine (walk l0 b0 v1 g1 ok1 W rfl).mono fun e W' ⟨he, bel⟩ => ?_
  subst he
  exact ⟨_, rfl, _, _, _, [], _, [], hW', trodAll_mk1 (shut_bool Try.underlying4 _), (trodAll_cons_mk (shut_string Try.underlying9 w0) (trodAll_cons_mk (Below.trod laidOut (by kernel_rfl) (of_decide_eq_true (by kernel_rfl)) k1 bel lt1) trodAll_mk0)), rfl, bel.frame _, fun h => by cases h⟩

theorem over : Rows.octetReadsRow.holds Try.pinned (OpenSpec.ofChange Rows.octetReadsSpec) :=
  OpenClaim.holds_of_wide 4 Try.f4 rfl rfl rfl rfl rfl rfl rfl ⟨rfl, rfl, rfl, rfl, rfl⟩ rfl rfl rfl rfl rfl (by kernel_rfl) Try.func4 (by kernel_rfl)
    (of_decide_eq_true (by kernel_rfl)) (by unfold Func.isWrapper; first | (rw [if_pos (by decide +kernel)]; kernel_rfl) | (rw [if_neg (by decide +kernel)]; exact ⟨rfl, rfl⟩))
    (fun os started H enc _ => lifted os started H enc)

theorem proved : Rows.OctetReadsSaid := over
#print axioms proved
end octetReads
end Go.Proofs.Ytkcgddcdgneenaa
