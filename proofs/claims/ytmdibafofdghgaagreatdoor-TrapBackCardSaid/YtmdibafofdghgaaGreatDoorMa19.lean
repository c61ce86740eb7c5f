/- Texts on the program and on the document, joined: OidW, Rgr, OidY. -/
import Derived.Test.YtmdibafofdghgaaGreatDoorMa18
import Derived.Deep.RegionWith
import Derived.Test.YtmdibafofdghgaaGreatDoorRows
import Derived.Test.YtmdibafofdghgaaGreatDoorMa01
import Derived.Test.YtmdibafofdghgaaGreatDoorMa04
import Derived.ProofKit
import Derived.OpenShut
import Derived.ShutString
import Derived.Test.YtmdibafofdghgaaGreatDoorMa11
/- oid's Encode, walked. -/
namespace Go.Proofs.YtmdibafofdghgaaGreatDoor
open Go.ChangeShapes Go.WideShapes Go.ChangeAt Go.RowKit K O6
set_option linter.unusedVariables false

theorem own_block {w : World} {B : Nat} {T : TypeId} {v : Value} {cs : List Nat} (h : OwnI w B T v cs) (h0 : 0 < cs.length) :
    ∃ g cap cur, v = .slice (some ⟨g, 0, none⟩) cs.length cap ∧ B ≤ g ∧ w.heap[g]? = some (.cells cur T (0, 0)) ∧ cs.length ≤ cap ∧ ∀ i, i < cs.length → w.cell? ⟨g, i, none⟩ = some (.int .i64 ((cs.getD i 0 : Nat) : Int)) := by
  have hf := h.form
  rcases h.2 with ⟨hv, h1⟩ | ⟨g, cap, cur, hv, hB, hh, hle, hm, hs, ht⟩
  · omega
  · obtain ⟨ao, cp, hv2, hc⟩ := hf
    rw [hv] at hv2
    injection hv2 with e1 e2 e3
    rcases hc with hc | ⟨g2, ha, _, _, hcell⟩
    · omega
    · rw [← e1] at ha
      injection ha with ha
      injection ha with ha
      subst ha
      exact ⟨g, cap, cur, hv, hB, hh, hle, fun i hi => (hcell i hi).1⟩
def EncRel (ns : List Nat) (w : World) (b g : Nat) (v : Value) (wr : World) : Prop :=
  ∃ i, i + g = ns.length ∧ v = .int .i64 (i : Nat) ∧ Bld b b ((ns.take i).flatMap P1.grp) wr ∧ Below b w wr
theorem flat_snoc (ns : List Nat) (i : Nat) (hi : i < ns.length) : (ns.take (i + 1)).flatMap P1.grp = (ns.take i).flatMap P1.grp ++ P1.grp (ns.getD i 0) := by
  rw [List.take_succ_eq_append_getElem hi, List.flatMap_append]
  simp [List.getD, List.getElem?_eq_getElem hi]
theorem flat_len (ns : List Nat) (i : Nat) : ((ns.take i).flatMap P1.grp).length ≤ 9 * ns.length := by
  have h : ∀ l : List Nat, (l.flatMap P1.grp).length ≤ 9 * l.length := by
    intro l
    induction l with
    | nil => simp
    | cons a l ih =>
      have := P1.grp_length a
      rw [List.flatMap_cons, List.length_append, List.length_cons]; omega
  have h1 := h (ns.take i)
  rw [List.length_take] at h1
  have : min i ns.length ≤ ns.length := Nat.min_le_right _ _
  omega
theorem Below_drew1 {B : Nat} {a b : World} (h : Below B a b) : Below B a b.drew := ⟨h.os, h.tape, h.output, h.size, h.block⟩
theorem enc_cells {w1 : World} {g : Nat} {cur : Array Value} {T : TypeId} {x y : Nat} {r : List Nat} (hh : w1.heap[g]? = some (.cells cur T (0, 0)))
    (hc : ∀ i, i < (x :: y :: r).length → w1.cell? ⟨g, i, none⟩ = some (.int .i64 (((x :: y :: r).getD i 0 : Nat) : Int))) :
    RdZ ((w1.setCell ⟨g, 1, none⟩ (.int .i64 ((y : Int) + 40 * (x : Int)))).drew) (some ⟨g, 1, none⟩) ((40 * x + y) :: r).length (fz ((40 * x + y) :: r)) := by
  have hs := rowSet hh 1 (.int .i64 ((y : Int) + 40 * (x : Int)))
  refine .inr ⟨g, 1, rfl, lt_of_block hs, fun i hi => ?_⟩
  show (w1.setCell ⟨g, 1, none⟩ (.int .i64 ((y : Int) + 40 * (x : Int)))).cell? ⟨g, 1 + i, none⟩ = _
  rw [cellRow hs]
  have h1 := hc 1 (by simp)
  rw [cellRow hh] at h1
  have hsz : 1 < cur.size := (Array.getElem?_eq_some_iff.1 h1).1
  cases i with
  | zero =>
    rw [Nat.add_zero, Array.getElem?_setIfInBounds_self, if_pos hsz]
    unfold fz
    rw [show ((40 * x + y) :: r).getD 0 0 = 40 * x + y from rfl]
    congr 2; omega
  | succ i =>
    rw [Array.getElem?_setIfInBounds_ne (by omega)]
    have h2 := hc (1 + (i + 1)) (by simp at hi ⊢; omega)
    rw [cellRow hh] at h2
    rw [h2, show 1 + (i + 1) = (i + 1) + 1 by omega]; rfl
set_option maxRecDepth 100000 in
set_option maxHeartbeats 2000000 in
theorem encode_walk (s : List UInt8) (hs : s.length ≤ 1000000) (w : World) (T : Tabs w) :
    Calls Tryz.prog 119 #[.string (bs s)] w fun e w' => e = .returned (.tuple #[.string (bs (enS s)), .int .i64 (arE s : Nat)]) ∧ Below w.heap.size w w' := by
  have HA := Lib.hid (arcs_walk s hs w T)
  unfold ArPost at HA
  cases hx : arcs s with
  | none =>
    have h1 := ar_none hx
    have h2 : enS s = [] := by unfold enS; rw [hx]; rfl
    rw [h1.1, h1.2] at HA
    rw [h1.1, h2]
    clear h1 h2 hx
    go_enter Tryz.func119, Tryz.ntmps119
    go_wp2_with fail
    refine HA.out.mono ?_
    rintro e w1 ⟨va, rfl, hoa, hb1⟩
    go_wp2
    go_ret2
    exact ⟨rfl, hb1⟩
  | some l =>
    have h1 := ar_some hx
    have h2 : enS s = eb l := by unfold enS; rw [hx, h1.2]; rfl
    rw [h1.1, h1.2] at HA
    rw [h1.1, h2]
    have hz := ((arcs_iff s l).1 hx).1
    have hlen := isArcs_len hz
    obtain ⟨x, y, r, rfl, hxy, hrr⟩ := isArcs_two hz
    have hb : eb (x :: y :: r) = ((40 * x + y) :: r).flatMap P1.grp := eb_two x y r
    rw [hb]
    have hL : (x :: y :: r).length = r.length + 2 := rfl
    have hr2 : r.length ≤ 126 := by omega
    have hns : ∀ a ∈ (40 * x + y) :: r, a ≤ 4294967295 := by
      intro a ha
      rcases List.mem_cons.1 ha with h | h
      · rw [h]; omega
      · exact hrr a h
    have hx2 : x ≤ 2 := by omega
    have hy2 : y ≤ 4294967215 := by omega
    have HNS := Lib.hid hns
    have hnl : ((40 * x + y) :: r).length = r.length + 1 := rfl
    clear h1 h2 hx hz hxy hrr hb hns
    go_enter Tryz.func119, Tryz.ntmps119
    go_wp2_with fail
    refine HA.out.mono ?_
    rintro e w1 ⟨va, rfl, hoa, hb1⟩
    obtain ⟨g, cap, cur, rfl, hBg, hh, hlc, hc⟩ := own_block hoa (by omega)
    rw [hL] at hlc ⊢
    have c0 := hc 0 (by omega)
    have c1 := hc 1 (by omega)
    have HC := Lib.hid hc
    have HH := Lib.hid hh
    have f1 : w1.frozen? ⟨g, 1, none⟩ = false := freeRow hh 1
    rw [show (x :: y :: r).getD 0 0 = x from rfl] at c0
    rw [show (x :: y :: r).getD 1 0 = y from rfl] at c1
    have z1 : IntKind.i64.wrap (40 * (x : Int)) = 40 * (x : Int) := IntWalk.i64_in _ (by omega)
    have z2 : IntKind.i64.wrap ((y : Int) + 40 * (x : Int)) = (y : Int) + 40 * (x : Int) := IntWalk.i64_in _ (by omega)
    have l1 : (1 : Int) ≤ (r.length + 2 : Nat) := by omega
    have l2 : (1 : Nat) ≤ cap := by omega
    clear hc hh hoa HA
    go_wp2_with fail
    go_region_with (fail)
    all_goals
      have hR := enc_cells HH.out HC.out
      have hB2 := Below_drew1 (hb1.setCell (p := ⟨g, 1, none⟩) hBg (.int .i64 ((y : Int) + 40 * (x : Int))))
      clear c0 c1 f1
      generalize (w1.setCell ⟨g, 1, none⟩ (.int .i64 ((y : Int) + 40 * (x : Int)))).drew = w2 at *
      have HBF := Lib.hid (obld_fresh w2)
      have HBA := Lib.hid (show Below w2.heap.size w2 (w2.alloc (.cells #[.pointer none, .slice none 0 0] 126)) from (Below.refl _ _).alloc (Nat.le_refl _) _)
      have HG := Lib.hid (fun m (h : m ≤ 4294967295) w3 => octGroups_nat m (by omega) w3)
      have HR := Lib.hid hR
      have HFL := Lib.hid (flat_snoc ((40 * x + y) :: r))
      have HGL := Lib.hid (flat_len ((40 * x + y) :: r))
      have HNL := Lib.hid hnl
      clear hR HH HC hlen hL z1 z2 l1 l2 hx2 hy2 hnl
      generalize hns : (40 * x + y) :: r = ns at *
      have HNQ := Lib.hid hns
      clear hns
      go_wp2
      go_loopg [33] (r.length + 1) (fun g v wr => EncRel ns w2 w2.heap.size g v wr)
      case atStart => exact ⟨0, by rw [HNL.out]; omega, rfl, by rw [List.take_zero]; exact HBF.out, HBA.out⟩
      case round =>
        clear HBF HBA
        obtain ⟨i, hig, rfl, hB, hb⟩ := hrel
        rw [HNL.out] at hig
        cases gk with
        | zero =>
          obtain rfl : i = r.length + 1 := by omega
          have hall : ns.take (r.length + 1) = ns := List.take_of_length_le (by rw [HNL.out]; exact Nat.le_refl _)
          rw [hall] at hB
          clear hig hall
          go_wp2_with fail
          refine (bstr _ _ _ _ hB hb.size).mono ?_
          rintro e w3 ⟨rfl, b3⟩
          have hb3 := hB2.trans ((hb.trans b3).mono hB2.size)
          clear b3
          go_wp2
          go_ret2
          rw [HNQ.out]
          exact ⟨rfl, hb3⟩
        | succ g =>
          have hin : i < r.length + 1 := by omega
          have hin2 : (i : Int) < (r.length : Int) + 1 := by omega
          have hx : ns.getD i 0 ≤ 4294967295 := HNS.out _ (by simp [List.getD, List.getElem?_eq_getElem (show i < ns.length by rw [HNL.out]; exact hin)])
          rcases HR.out.below hb with h0 | ⟨rb, off, hra, hrb, hrc⟩
          · rw [HNL.out] at h0; omega
          · injection hra with hra
            injection hra with h1 h2 h3
            subst h1 h2
            have hcell := hrc i (by rw [HNL.out]; exact hin)
            unfold fz at hcell
            have HFS := Lib.hid (HFL.out i (by rw [HNL.out]; exact hin))
            have hgl := HGL.out i
            rw [HNL.out] at hgl
            have hgl2 := P1.grp_length (ns.getD i 0)
            clear hrc
            generalize hX : ns.getD i 0 = X at *
            clear hX
            generalize (ns.take i).flatMap P1.grp = PT at *
            go_wp2_with fail
            refine (HG.out X hx _).mono ?_
            rintro e w3 ⟨rfl, d3⟩
            have B3 := bld_below hB d3
            have b3 := hb.trans (d3.mono hb.size)
            clear d3 hB hb
            go_wp2_with fail
            refine (wstr _ _ PT (P1.grp X) w3 B3 (by omega) b3.size).mono ?_
            rintro e w4 ⟨rfl, B4, k4, -⟩
            have b4 := b3.trans k4
            clear b3 k4 B3
            go_wp2
            go_roundg g
            case measure => omega
            case rel => exact ⟨i + 1, by rw [HNL.out]; omega, by simp, by rw [HFS.out]; exact B4, b4⟩
end Go.Proofs.YtmdibafofdghgaaGreatDoor
/- octet's Reader: Groups, Left, Done, walked at this translation. -/
namespace Go.Proofs.YtmdibafofdghgaaGreatDoor
open Go.ChangeShapes Go.WideShapes Go.ChangeAt Go.RowKit P1 K
set_option linter.unusedVariables false

namespace RG
def FRel (l : List UInt8) (most : Int) (vn vi : Value) : Prop :=
  ∃ i n : Nat, i ≤ 9 ∧ i ≤ l.length ∧ n < 128 ^ i ∧ vn = .int .i64 n ∧ vi = .int .i64 i ∧ (0 < i → ¬ byt l 0 = 128) ∧ rgo l most 9 0 0 = rgo l most (9 - i) i n

set_option maxRecDepth 100000 in
theorem first_walk (l : List UInt8) (most : Int) (hl : l.length ≤ 140737488351232) (h0 : -9223372036854775808 ≤ most) (h1 : most ≤ 9223372036854775807) (w : World) :
    Calls Tryz.prog 140 #[.string (bs l), .int .i64 most] w fun e w' => e = .returned (.tuple #[.int .i64 (rgo l most 9 0 0).1, .int .i64 (rgo l most 9 0 0).2.1, .int .i64 (rgo l most 9 0 0).2.2]) ∧ w = w' := by
  go_enter Tryz.func140, Tryz.ntmps140
  go_wp2
  go_loop [4, 8] (fun vn vi => FRel l most vn vi) (fun vn vi => 9 - (intOf vi).toNat)
  case atStart => exact ⟨0, 0, by omega, by omega, by omega, rfl, rfl, by omega, rfl⟩
  case round =>
    obtain ⟨i, n, hi, hil, hn, rfl, rfl, hb, he⟩ := hrel
    have He := Lib.hid he; have Hb := Lib.hid hb
    clear hb he
    by_cases h9 : i < 9
    · have hle : (128 : Nat) ^ i ≤ 128 ^ 8 := Nat.pow_le_pow_right (by omega) (by omega)
      have hn8 : n < 72057594037927936 := by omega
      have Hn := Lib.hid hn; clear hle hn
      have hbt := byt_lt l i
      by_cases hend : i = l.length
      · have hE : rgo l most 9 0 0 = (0, 0, 10) := by
          rw [He.out, show 9 - i = (8 - i) + 1 by omega, hend]; exact rgo_end l most _ n
        have HE := Lib.hid hE
        subst hend
        clear hE
        go_wp2
        go_ret3
        rw [HE.out]
        exact ⟨rfl, rfl⟩
      · have hlt : i < l.length := by omega
        have hne : (((i : Nat) : Int) == ((l.length : Nat) : Int)) = false := by rw [beq_eq_false_iff_ne]; omega
        clear hend
        by_cases hf : i = 0 ∧ byt l 0 = 128
        · obtain ⟨rfl, hf⟩ := hf
          have hE : rgo l most 9 0 0 = (0, 0, 3) := rgo_form l most 8 0 hlt hf
          have HE := Lib.hid hE
          have hf' : (((byt l 0 : Nat) : Int) == 128) = true := by rw [beq_iff_eq]; omega
          clear hE hf
          go_wp2
          go_ret3
          rw [HE.out]
          exact ⟨rfl, rfl⟩
        · have hq : (i = 0 ∧ (((byt l 0 : Nat) : Int) == 128) = false) ∨ ((((i : Nat) : Int) == 0) = false) := by
            by_cases hi0 : i = 0
            · left; exact ⟨hi0, by rw [beq_eq_false_iff_ne]; omega⟩
            · right; rw [beq_eq_false_iff_ne]; omega
          by_cases hm : most < ((n * 128 + byt l i % 128 : Nat) : Int)
          · have hE : rgo l most 9 0 0 = (0, 0, 2) := by rw [He.out, show 9 - i = (8 - i) + 1 by omega]; exact rgo_long l most _ i n hlt hf hm
            have HE := Lib.hid hE
            have hm' : most < (n : Int) * 128 + (byt l i : Int) % 128 := by omega
            clear hE hm hf
            rcases hq with ⟨rfl, hq⟩ | hq
            all_goals
              go_wp2
              go_ret3
              rw [HE.out]
              exact ⟨rfl, rfl⟩
          · have hm' : (n : Int) * 128 + (byt l i : Int) % 128 ≤ most := by omega
            by_cases hs : byt l i < 128
            · have hE : rgo l most 9 0 0 = (n * 128 + byt l i % 128, i + 1, 0) := by rw [He.out, show 9 - i = (8 - i) + 1 by omega]; exact rgo_done l most _ i n hlt hf hm hs
              have HE := Lib.hid hE
              clear hE hm hf
              rcases hq with ⟨rfl, hq⟩ | hq
              all_goals
                go_wp2
                go_ret3
                rw [HE.out]
                exact ⟨rfl, rfl⟩
            · have hE : rgo l most 9 0 0 = rgo l most (9 - (i + 1)) (i + 1) (n * 128 + byt l i % 128) := by rw [He.out, show 9 - i = (8 - i) + 1 by omega, show 9 - (i + 1) = 8 - i by omega]; exact rgo_more l most _ i n hlt hf hm hs
              have HE := Lib.hid hE
              have hb1 : ¬ byt l 0 = 128 := by
                rcases Nat.eq_zero_or_pos i with h | h
                · exact fun e => hf ⟨h, e⟩
                · exact Hb.out h
              have Hb1 := Lib.hid hb1
              clear hE hm hf hb1
              rcases hq with ⟨rfl, hq⟩ | hq
              all_goals
                go_wp2
                go_round
                case measure => first | (simp [intOf]; done) | (simp [intOf]; omega)
                case rel =>
                  refine ⟨_, _, by omega, by omega, ?_, ?_, ?_, fun _ => Hb1.out, HE.out⟩
                  · have := Hn.out
                    rw [Nat.pow_succ]; omega
                  · simp
                  · simp
    · obtain rfl : i = 9 := by omega
      have hE : rgo l most 9 0 0 = (0, 0, 3) := He.out
      have HE := Lib.hid hE
      clear hE hn
      go_wp2
      go_ret3
      rw [HE.out]
      exact ⟨rfl, rfl⟩

theorem left_walk (b T : Nat) (s : List UInt8) (p : Nat) (c : Int) (ok : Ok s p c) (w : World) (h : Rdr w b T s p c) :
    Calls Tryz.prog 67 #[.pointer (some ⟨b, 0, none⟩)] w fun e w' => e = .returned (.int .i64 (((s.length - p : Nat) : Nat) : Int)) ∧ ∃ n, w' = w.drewN n := by
  obtain ⟨hs, hp, _, _⟩ := ok
  obtain ⟨c0, c1, c2, _, _⟩ := h.cells
  clear h
  go_enter Tryz.func67, Tryz.ntmps67
  go_wp2
  go_quiet (fail)
  go_wp2
  go_ret
  refine ⟨?_, nq, rfl⟩
  show Ending.returned (.int .i64 ((s.length : Int) - p)) = _
  rw [show ((s.length : Int) - p) = ((s.length - p : Nat) : Int) by omega]

theorem code_walk (b T : Nat) (s : List UInt8) (p : Nat) (c : Int) (w : World) (h : Rdr w b T s p c) :
    Calls Tryz.prog 65 #[.pointer (some ⟨b, 0, none⟩)] w fun e w' => e = .returned (.int .i64 c) ∧ w = w' := by
  obtain ⟨c0, c1, c2, _, _⟩ := h.cells
  clear h
  go_enter Tryz.func65, Tryz.ntmps65
  go_wp2
  go_ret
  exact ⟨rfl, rfl⟩

theorem refuse_walk (b T : Nat) (s : List UInt8) (p : Nat) (c d : Int) (w : World) (h : Rdr w b T s p c) :
    Calls Tryz.prog 88 #[.pointer (some ⟨b, 0, none⟩), .int .i64 d] w fun e w' => e = .returned (.tuple #[]) ∧ Kp [b] w w' ∧ Rdr w' b T s p (newc c d) := by
  obtain ⟨c0, c1, c2, _, f2⟩ := h.cells
  have H := Lib.hid h; clear h
  by_cases hc : c = 0
  · subst hc
    go_enter Tryz.func88, Tryz.ntmps88
    go_wp2
    go_end0
    exact ⟨rfl, (Kp.refl _ _).set _ (by simp) _, H.out.setC d⟩
  · have hc' : (c == 0) = false := by rw [beq_eq_false_iff_ne]; exact hc
    have Hc := Lib.hid hc; clear hc
    go_enter Tryz.func88, Tryz.ntmps88
    go_wp2
    go_end0
    exact ⟨rfl, Kp.refl _ _, by rw [newc_not _ _ Hc.out]; exact H.out⟩
set_option maxRecDepth 100000 in
theorem rGroups_walk (b T : Nat) (s : List UInt8) (p : Nat) (c most : Int) (ok : Ok s p c) (h0 : -9223372036854775808 ≤ most) (h1 : most ≤ 9223372036854775807) (w : World) (h : Rdr w b T s p c) :
    Calls Tryz.prog 129 #[.pointer (some ⟨b, 0, none⟩), .int .i64 most] w fun e w' => e = .returned (.int .i64 (rdG s p c most).1) ∧ Kp [b] w w' ∧ Rdr w' b T s (rdG s p c most).2.1 (rdG s p c most).2.2 := by
  obtain ⟨hs, hp, _, _⟩ := ok
  have hfa := rgo_facts s p most
  obtain ⟨c0, c1, c2, _, f2⟩ := h.cells
  have H := Lib.hid h; clear h
  have HF := Lib.hid hfa; clear hfa
  have hdl : (s.drop p).length ≤ 140737488351232 := by rw [List.length_drop]; omega
  have HD := Lib.hid hdl; clear hdl
  go_enter Tryz.func129, Tryz.ntmps129
  go_wp2
  go_quiet ((go_at_call 140; refine Calls.quiet_mk (first_walk _ most HD.out h0 h1 _)))
  go_wp2_with fail
  refine (refuse_walk b T s p c _ (w.drewN nq) H.out).mono ?_
  rintro e w1 ⟨rfl, kp, h1'⟩
  have kp' := kp.ofDrewN
  clear c0 c1 c2 f2 kp
  obtain ⟨c0, c1, c2, f1, f2⟩ := h1'.cells
  have H1 := Lib.hid h1'; clear h1'
  by_cases hd : newc c (rgo (s.drop p) most 9 0 0).2.2 = 0
  · have HE := Lib.hid (rdG_0 s p c most hd)
    have hz := HF.out
    generalize (rgo (s.drop p) most 9 0 0).1 = r1 at *
    generalize (rgo (s.drop p) most 9 0 0).2.1 = r2 at *
    generalize newc c (rgo (s.drop p) most 9 0 0).2.2 = d at *
    subst hd
    obtain ⟨_, hz2, _⟩ := hz
    go_wp2
    go_ret
    rw [HE.out]
    exact ⟨rfl, kp'.set _ (by simp) _, by have := H1.out.setP (p + r2); simpa using this⟩
  · have HE := Lib.hid (rdG_d s p c most hd)
    have hn : ((newc c (rgo (s.drop p) most 9 0 0).2.2) != 0) = true := by rw [bne_iff_ne]; exact hd
    clear hd
    generalize newc c (rgo (s.drop p) most 9 0 0).2.2 = d at *
    go_wp2
    go_ret
    rw [HE.out]
    exact ⟨rfl, kp', H1.out⟩

theorem rDone_walk (b T : Nat) (s : List UInt8) (p : Nat) (c : Int) (ok : Ok s p c) (w : World) (h : Rdr w b T s p c) :
    Calls Tryz.prog 130 #[.pointer (some ⟨b, 0, none⟩)] w fun e w' => e = .returned (.int .i64 (rdD s p c)) ∧ ∃ n, w' = w.drewN n := by
  obtain ⟨c0, c1, c2, _, _⟩ := h.cells
  have H := Lib.hid h; clear h
  by_cases hc : c = 0
  · subst hc
    by_cases hp : p < s.length
    · have e : rdD s p 0 = 3 := by simp [rdD, hp]
      rw [e]; clear e
      have hlt : (0 : Int) < ((s.length - p : Nat) : Int) := by omega
      go_enter Tryz.func130, Tryz.ntmps130
      go_wp2_with (go_at_call 67; refine (left_walk b T s p 0 ok w H.out).mono ?_; rintro e w1 ⟨rfl, n, rfl⟩)
      go_ret
      exact ⟨rfl, _, rfl⟩
    · have e : rdD s p 0 = 0 := by simp [rdD, hp]
      rw [e]; clear e
      have hle : ((s.length - p : Nat) : Int) ≤ 0 := by omega
      have Hp := Lib.hid hp; clear hp
      go_enter Tryz.func130, Tryz.ntmps130
      go_wp2_with (go_at_call 67; refine (left_walk b T s p 0 ok w H.out).mono ?_; rintro e w1 ⟨rfl, n, rfl⟩)
      go_ret
      exact ⟨rfl, _, rfl⟩
  · have e : rdD s p c = c := by simp [rdD, hc]
    rw [e]; clear e
    have hn : (c == 0) = false := by rw [beq_eq_false_iff_ne]; exact hc
    clear hc
    go_enter Tryz.func130, Tryz.ntmps130
    go_wp2
    go_ret
    exact ⟨rfl, 0, rfl⟩

theorem read_walk (s : List UInt8) (w : World) :
    Calls Tryz.prog 61 #[.string (bs s)] w fun e w' => e = .returned (.pointer (some ⟨w.heap.size, 0, none⟩)) ∧ Kp [] w w' ∧ w'.heap.size = w.heap.size + 1 ∧ Rdr w' w.heap.size 140 s 0 0 := by
  go_enter Tryz.func61, Tryz.ntmps61
  go_wp2
  go_ret
  exact ⟨rfl, (Kp.refl _ _).alloc _, by simp, rowNew w _⟩
end RG
end Go.Proofs.YtmdibafofdghgaaGreatDoor
/- oid's Decode, walked. -/
namespace Go.Proofs.YtmdibafofdghgaaGreatDoor
open Go.ChangeShapes Go.WideShapes Go.ChangeAt Go.RowKit K O6
set_option linter.unusedVariables false

theorem deA_nil : deA [] = none := by unfold deA; rw [if_pos (.inl rfl)]
theorem dp_first (b : List UInt8) :
    ((P1.rdG b 0 0 4294967295).1 ≤ 4294967295) ∧ ((P1.rdG b 0 0 4294967295).2.2 = 0 → b ≠ [] ∧ gpl b = ahO [(P1.rdG b 0 0 4294967295).1] (gpl (b.drop (P1.rdG b 0 0 4294967295).2.1))) ∧ (¬ (P1.rdG b 0 0 4294967295).2.2 = 0 → deA b = none) := by
  by_cases hn : b = []
  · subst hn
    have h : (P1.rdG [] 0 0 4294967295) = (0, 0, 10) := by decide
    rw [h]
    exact ⟨Nat.zero_le _, fun h => absurd h (by decide), fun _ => deA_nil⟩
  · by_cases hc : (P1.rgo (b.drop 0) 4294967295 9 0 0).2.2 = 0
    · rw [P1.rdG_yes b 0 4294967295 hc]
      rw [List.drop_zero] at hc ⊢
      refine ⟨?_, fun _ => ⟨hn, ?_⟩, fun h => absurd rfl h⟩
      · have := rgo_most b 4294967295 9 0 0 hc
        show (P1.rgo b 4294967295 9 0 0).1 ≤ 4294967295
        omega
      · have h := ahO_more [] hn hc
        rw [Nat.zero_add]
        cases hg : gpl b with
        | none => rw [hg] at h; exact h
        | some r => rw [hg] at h; exact h
    · rw [P1.rdG_no b 0 4294967295 hc]
      refine ⟨Nat.zero_le _, fun h => absurd h hc, fun _ => ?_⟩
      rw [List.drop_zero] at hc
      exact deA_bad (by rw [gpl_step hn, if_neg hc])
theorem dp_step {b : List UInt8} {p : Nat} {c : Int} {N : Nat} {ys : List Nat} (hp : p < b.length) (h0 : c = 0 → gpl b = ahO (N :: ys) (gpl (b.drop p))) (h1 : ¬ c = 0 → deA b = none) :
    ((P1.rdG b p c 4294967295).2.2 = 0 → gpl b = ahO (N :: (ys ++ [(P1.rdG b p c 4294967295).1])) (gpl (b.drop (P1.rdG b p c 4294967295).2.1))) ∧ (¬ (P1.rdG b p c 4294967295).2.2 = 0 → deA b = none) := by
  by_cases hc : c = 0
  · subst hc
    obtain ⟨_, hok, hno⟩ := ahO_next (N :: ys) hp
    rw [← h0 rfl] at hok hno
    exact ⟨fun h => (hok h).2, fun h => deA_bad (hno h)⟩
  · rw [P1.rdG_bad b p c _ hc]
    exact ⟨fun h => absurd h hc, fun _ => h1 hc⟩
theorem dp_long {b : List UInt8} {p : Nat} {N : Nat} {ys : List Nat} (hp : p < b.length) (hy : ys.length = 126) (h0 : gpl b = ahO (N :: ys) (gpl (b.drop p))) : deA b = none := by
  cases hg : gpl (b.drop p) with
  | none => rw [hg] at h0; exact deA_bad h0
  | some zs =>
    rw [hg] at h0
    have h2 : gpl b = some (N :: (ys ++ zs)) := h0
    have hz := gpl_inv _ _ zs (Nat.le_refl _) hg
    have hzl : 1 ≤ zs.length := by
      rcases Nat.eq_zero_or_pos zs.length with h | h
      · have : zs = [] := List.length_eq_zero_iff.1 h
        rw [this] at hz
        have := congrArg List.length hz.1
        rw [List.length_drop] at this
        simp at this; omega
      · exact h
    by_cases hb : 640 < b.length
    · unfold deA; rw [if_pos (.inr hb)]
    · rw [deA_out (fun h => by rw [h] at hp; simp at hp) (by omega) h2, if_neg]
      intro h
      have := isArcs_len h
      simp at this; omega
theorem dp_end {b : List UInt8} {p : Nat} {N : Nat} {ys : List Nat} (hp : b.length ≤ p) (hb : b ≠ []) (hy : ys.length ≤ 126) (h0 : gpl b = ahO (N :: ys) (gpl (b.drop p))) :
    deA b = some (a0 N :: a1 N :: ys) ∧ ∀ a ∈ a0 N :: a1 N :: ys, a ≤ 4294967295 := by
  rw [List.drop_eq_nil_of_le hp, gpl_nil] at h0
  have h2 : gpl b = some (N :: ys) := by
    rw [h0]; show some (N :: ys ++ []) = _; rw [List.append_nil]
  obtain ⟨h3, h4, _⟩ := gpl_inv _ _ _ (Nat.le_refl _) h2
  have h5 := flat_small (N :: ys) h4
  rw [h3, List.length_cons] at h5
  have hN := h4 N (by simp)
  have hle : ∀ a ∈ a0 N :: a1 N :: ys, a ≤ 4294967295 := by
    intro a ha
    rcases List.mem_cons.1 ha with h | h
    · rw [h]; unfold a0; omega
    · rcases List.mem_cons.1 h with h | h
      · rw [h]; unfold a1 a0; omega
      · exact h4 a (List.mem_cons_of_mem _ h)
  have hia : isArcs (a0 N :: a1 N :: ys) = true := by
    unfold isArcs
    simp only [Bool.and_eq_true, decide_eq_true_eq, Bool.or_eq_true, List.all_eq_true, beq_iff_eq]
    refine ⟨by simp, by simp; omega, hle, ?_⟩
    show (a0 N < 2 ∧ a1 N ≤ 39) ∨ (a0 N = 2 ∧ a1 N ≤ 4294967215)
    unfold a1 a0; omega
  exact ⟨by rw [deA_out hb (by omega) h2, if_pos hia], hle⟩
/-- The reader at p, the list behind block rb. -/
def DpRel (b : List UInt8) (w : World) (rb n g : Nat) (v : Value) (wr : World) : Prop :=
  ∃ (p : Nat) (c : Int) (ys : List Nat), ys.length + g = 126 ∧ Rdr wr rb 140 b p c ∧ P1.Ok b p c ∧ OwnI wr (rb + 1) 3 v (a0 n :: a1 n :: ys) ∧
    (c = 0 → b ≠ [] ∧ gpl b = ahO (n :: ys) (gpl (b.drop p))) ∧ (¬ c = 0 → deA b = none) ∧ Below w.heap.size w wr
set_option maxRecDepth 100000 in
set_option maxHeartbeats 2000000 in
theorem decode_walk (b : List UInt8) (hb : b.length ≤ 140737488351232) (w : World) (T : Tabs w) :
    Calls Tryz.prog 115 #[.string (bs b)] w fun e w' => e = .returned (.tuple #[.string (bs (deS b)), .int .i64 (deE b : Nat)]) ∧ Below w.heap.size w w' := by
  obtain ⟨i0, hi, hz0, hz1, hz2⟩ := info_of int_info6
  have HT := Lib.hid T
  clear T
  go_enter Tryz.func115, Tryz.ntmps115
  go_wp2_with fail
  refine (RG.read_walk b w).mono ?_
  rintro e w0 ⟨rfl, k0, hsz0, hr0⟩
  have ok0 : P1.Ok b 0 0 := ⟨hb, Nat.zero_le _, by omega, by omega⟩
  have b0 : Below w.heap.size w w0 := k0.below (Nat.le_refl _) (by simp)
  have hlt0 : w.heap.size < w0.heap.size := by omega
  clear k0 hsz0
  go_wp2_with fail
  refine (RG.rGroups_walk w.heap.size 140 b 0 0 4294967295 ok0 (by omega) (by omega) w0 hr0).mono ?_
  rintro e w1 ⟨rfl, k1, r1⟩
  obtain ⟨ok1, hn1, hp1⟩ := P1.rdG_ok b 0 0 4294967295 ok0
  have hsem := dp_first b
  generalize P1.rdG b 0 0 4294967295 = q at *
  obtain ⟨N, p1, c1⟩ := q
  simp only [] at r1 ok1 hn1 hp1 hsem
  obtain ⟨hN, hs0, hs1⟩ := hsem
  have b1 : Below w.heap.size w w1 := b0.trans (k1.below (by omega) (by simp))
  have hlt1 : w.heap.size < w1.heap.size := Nat.lt_of_lt_of_le hlt0 k1.size
  clear hr0 ok0 b0 k1 hlt0
  generalize hgg : w.heap.size = rb at *
  have HS0 := Lib.hid hs0
  have HS1 := Lib.hid hs1
  clear hs0 hs1
  have hN0 : (0 : Int) ≤ (N : Nat) := by omega
  have hq0 : (0 : Int) ≤ (N : Nat) / 40 := by omega
  have hs2 : rb + 1 ≤ w1.heap.size := by omega
  have r2 : Rdr (w1.alloc (.cells #[.int .i64 (a0 N : Nat), .int .i64 (a1 N : Nat)] 3)) rb 140 b p1 c1 := (Below.heap_alloc _ _ _ hlt1).trans r1
  have hst : DpRel b w rb N 126 (.slice (some ⟨w1.heap.size, 0, none⟩) 2 2) (w1.alloc (.cells #[.int .i64 (a0 N : Nat), .int .i64 (a1 N : Nat)] 3)) :=
    ⟨p1, c1, [], rfl, r2, ok1, ownI_two w1 (rb + 1) 3 (a0 N) (a1 N) hs2, HS0.out, HS1.out, by rw [hgg]; exact b1.alloc (by omega) _⟩
  have HST := Lib.hid hst
  clear hst r2 r1 ok1 HS0 HS1 b1
  have HEQ := Lib.hid (show ((a0 N : Nat) : Int) = min ((N : Int) / 40) 2 ∧ ((a1 N : Nat) : Int) = (N : Int) - min ((N : Int) / 40) 2 * 40 by unfold a1 a0; omega)
  have z1 : IntKind.i64.wrap (min ((N : Int) / 40) 2 * 40) = min ((N : Int) / 40) 2 * 40 := IntWalk.i64_in _ (by omega)
  have z2 : IntKind.i64.wrap ((N : Int) - min ((N : Int) / 40) 2 * 40) = (N : Int) - min ((N : Int) / 40) 2 * 40 := IntWalk.i64_in _ (by omega)
  have HW := Lib.hid (fun cs (h : ∀ a ∈ cs, a ≤ 4294967295) (hn : cs.length ≤ 1000) ao cap w1 (hr : RdZ w1 ao cs.length (fz cs)) (t : Tabs w1) => write_walk cs h hn ao cap w1 hr t)
  go_wp2_with fail
  go_loopg [7] 126 (fun g v wr => DpRel b w rb N g v wr)
  case atStart =>
    have h := HST.out
    rw [HEQ.out.1, HEQ.out.2] at h
    exact h
  case round =>
    clear HST HEQ hq0 z1 z2
    obtain ⟨p, c, ys, hg, hr, ok, ho, h0, h1, hbl⟩ := hrel
    have hpb := ok.at_
    obtain ⟨q0, q1, q2, _, f2⟩ := hr.cells
    obtain ⟨ao, cap, rfl, hz⟩ := RdZ.own ho
    have hlen : (a0 N :: a1 N :: ys).length = ys.length + 2 := rfl
    by_cases hpl : p < b.length
    · have hleft : (0 : Int) < ((b.length - p : Nat) : Int) := by omega
      cases gk with
      | succ gk =>
        have hl128 : ((ys.length : Nat) : Int) + 2 < 128 := by omega
        have hst2 := dp_step hpl (fun h => (h0 h).2) h1
        have HBN := Lib.hid (show b ≠ [] by intro h; rw [h] at hpl; simp at hpl)
        obtain ⟨ok2, _, hpp2⟩ := P1.rdG_ok b p c 4294967295 ok
        clear h0 h1
        rw [hlen]
        go_wp2_with fail
        refine (RG.left_walk rb 140 b p c ok _ hr).mono ?_
        rintro e x1 ⟨rfl, kk, rfl⟩
        go_wp2_with fail
        refine Calls.mono (RG.rGroups_walk rb 140 b p c 4294967295 ok (by omega) (by omega) _ (show Rdr (wr.drewN kk) rb 140 b p c from hr)) ?_
        rintro e x2 ⟨rfl, k2, r3⟩
        have ho3 : OwnI x2 (rb + 1) 3 (.slice ao (ys.length + 2) cap) (a0 N :: a1 N :: ys) := ownI_kp ho k2.ofDrewN
        have b3 : Below w.heap.size w x2 := hbl.trans (k2.ofDrewN.below hbl.size (by rw [hgg]; simp))
        have hrs : rb + 1 ≤ x2.heap.size := by have := lt_of_block r3; omega
        generalize P1.rdG b p c 4294967295 = q at *
        obtain ⟨X, p2, c2⟩ := q
        simp only [] at hst2 ok2 r3 hpp2
        have HST2 := Lib.hid hst2; have HR3 := Lib.hid r3; have HOK2 := Lib.hid ok2; have HO := Lib.hid ho3.1
        have hys : ys.length ≤ 126 := by omega
        clear hst2 r3 ok2 ok ho hr q0 q1 q2 f2 hbl k2 hz
        go_wp2_with (at_builtin; refine wpList_append_own _ rfl _ _ 134 rfl (rb + 1) 3 i0 (.int .i64 0) 1 8 Tryz.underlying134 hi hz0 hz1 hz2 rfl (by decide) _ _ _ rfl (World.ownsRow.alloc ho3 _) ⟨x2.heap.size, 0, none⟩ 1 1 [.int .i64 (X : Nat)] rfl rfl ?c1 ?c2 ?c3 ?c4 ?c5 ?_)
        case c1 =>
          intro j u hj
          match j, hj with
          | 0, hj => simp at hj; subst hj; simp [Addr.add]
        case c2 => intro u hu; simp at hu; subst hu; rfl
        case c3 => unfold maxLen; rw [hlen]; omega
        case c4 => rw [hlen]; omega
        case c5 => simp; omega
        intro v' w4 hown' hgrow _
        have b4 := (b3.alloc (by have := b3.size; omega) (.cells #[.int .i64 (X : Nat)] 3)).grown hgrow (by have := b3.size; simp; omega) (fun k hk => by have := (World.ownsRow.lt ho3 k hk).1; omega)
        have k6 := ((Below.refl (rb + 1) x2).alloc (by omega) (.cells #[.int .i64 (X : Nat)] 3)).grown hgrow (by simp; omega) (fun k hk => (World.ownsRow.lt ho3 k hk).1)
        have r6 : Rdr w4 rb 140 b p2 c2 := (k6.block rb (Nat.lt_succ_self rb)).trans HR3.out
        have ho4 : OwnI w4 (rb + 1) 3 v' (a0 N :: a1 N :: ys ++ [X]) := OwnI.put hown'
        have HN := Lib.hid (show DpRel b w rb N gk v' w4 from ⟨p2, c2, ys ++ [X], by rw [List.length_append, List.length_singleton]; omega, r6, HOK2.out, ho4, fun h => ⟨HBN.out, HST2.out.1 h⟩, HST2.out.2, b4⟩)
        clear hown' hgrow ho3 b3 b4 k6 r6 ho4 HR3 HOK2 HO HST2 HBN
        go_wp2
        go_roundg gk
        case measure => omega
        case rel => exact HN.out
      | zero =>
        have hy : ys.length = 126 := by omega
        have hl128 : (128 : Int) ≤ ((ys.length : Nat) : Int) + 2 := by omega
        have hde : deA b = none := by
          by_cases hc : c = 0
          · exact dp_long hpl hy (h0 hc).2
          · exact h1 hc
        have HV := Lib.hid (de_none hde)
        have hD : (P1.rdD b p c != 0) = true := by
          rw [bne_iff_ne]
          unfold P1.rdD
          by_cases hc : c = 0
          · rw [if_neg (by simp [hc]), if_pos hpl]; decide
          · rw [if_pos hc]; exact hc
        have HD := Lib.hid (fun w2 (h : Rdr w2 rb 140 b p c) => RG.rDone_walk rb 140 b p c ok w2 h)
        generalize P1.rdD b p c = D at *
        clear h0 h1 hde ho hz
        rw [hlen]
        go_wp2_with fail
        refine (RG.left_walk rb 140 b p c ok _ hr).mono ?_
        rintro e x1 ⟨rfl, kk, rfl⟩
        go_wp2_with fail
        refine (HD.out _ (show Rdr (wr.drewN kk) rb 140 b p c from hr)).mono ?_
        rintro e x2 ⟨rfl, k2, rfl⟩
        have b5 := Below_drewNg hbl (kk + k2)
        go_wp2
        go_ret2
        rw [HV.out.1, HV.out.2]
        exact ⟨rfl, b5⟩
    · have hleft : ((b.length - p : Nat) : Int) ≤ 0 := by omega
      by_cases hc : c = 0
      · have hd0 : P1.rdD b p c = 0 := by
          unfold P1.rdD
          rw [if_neg (by simp [hc]), if_neg hpl]
        obtain ⟨hde, hle⟩ := dp_end (by omega) (h0 hc).1 (by omega) (h0 hc).2
        have HV := Lib.hid (de_some hde)
        have HD := Lib.hid (fun w2 (h : Rdr w2 rb 140 b p c) => RG.rDone_walk rb 140 b p c ok w2 h)
        rw [hd0] at HD
        have hWW := fun w1 (h : RdZ w1 ao (a0 N :: a1 N :: ys).length (fz (a0 N :: a1 N :: ys))) (t : Tabs w1) => HW.out (a0 N :: a1 N :: ys) hle (by rw [hlen]; omega) ao cap w1 h t
        rw [hlen] at hWW hz
        have HWW := Lib.hid hWW
        have HZ := Lib.hid hz
        clear h0 h1 hde ho hz hle hd0 hWW HW
        rw [hlen]
        go_wp2_with fail
        refine (RG.left_walk rb 140 b p c ok _ hr).mono ?_
        rintro e x1 ⟨rfl, kk, rfl⟩
        go_wp2_with fail
        refine (HD.out _ (show Rdr (wr.drewN kk) rb 140 b p c from hr)).mono ?_
        rintro e x2 ⟨rfl, k2, rfl⟩
        have b5 := Below_drewNg (Below_drewNg hbl kk) k2
        have z5 : RdZ ((wr.drewN kk).drewN k2) ao (ys.length + 2) _ := HZ.out
        generalize (wr.drewN kk).drewN k2 = w5 at *
        go_wp2_with fail
        refine (HWW.out w5 z5 (HT.out.below b5)).mono ?_
        rintro e w6 ⟨rfl, d6⟩
        go_wp2
        go_ret2
        rw [HV.out.1, HV.out.2]
        exact ⟨rfl, b5.trans (d6.mono b5.size)⟩
      · have hD : (P1.rdD b p c != 0) = true := by
          rw [bne_iff_ne]
          unfold P1.rdD
          rw [if_pos hc]; exact hc
        have HV := Lib.hid (de_none (h1 hc))
        have HD := Lib.hid (fun w2 (h : Rdr w2 rb 140 b p c) => RG.rDone_walk rb 140 b p c ok w2 h)
        generalize P1.rdD b p c = D at *
        clear h0 h1 hc ho hz
        rw [hlen]
        go_wp2_with fail
        refine (RG.left_walk rb 140 b p c ok _ hr).mono ?_
        rintro e x1 ⟨rfl, kk, rfl⟩
        go_wp2_with fail
        refine (HD.out _ (show Rdr (wr.drewN kk) rb 140 b p c from hr)).mono ?_
        rintro e x2 ⟨rfl, k2, rfl⟩
        have b5 := Below_drewNg hbl (kk + k2)
        go_wp2
        go_ret2
        rw [HV.out.1, HV.out.2]
        exact ⟨rfl, b5⟩
end Go.Proofs.YtmdibafofdghgaaGreatDoor
