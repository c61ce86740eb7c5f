/- Texts on the program and on the document, joined: Rdq, OidG. -/
import Derived.Test.YtkmfcnilbmckmaaGreatDoorRows
import Derived.Test.YtkmfcnilbmckmaaGreatDoorMa05
import Derived.ProofKit
import Derived.OpenShut
import Derived.ShutString
import Derived.IntWalk
import Derived.Test.YtkmfcnilbmckmaaGreatDoorMa16
import Derived.Test.YtkmfcnilbmckmaaGreatDoorMa12
import Derived.BigQuiet
import Derived.Deep.QuietTactic
import Derived.Deep.RegionWith
/- The document's reader: Left, Groups. -/
namespace Go.Proofs.YtkmfcnilbmckmaaGreatDoor
open Go.ChangeShapes Go.WideShapes Go.ChangeAt Go.RowKit P1 K
set_option linter.unusedVariables false

theorem qLeft_walk (b T : Nat) (s : List UInt8) (p : Nat) (c : Int) (ok : Ok s p c) (w : World) (h : Rdr w b T s p c) :
    Calls Tryz.prog 50 #[.pointer (some ⟨b, 0, none⟩)] w fun e w' => e = .returned (.int .i64 (((s.length - p : Nat) : Nat) : Int)) ∧ ∃ n, w' = w.drewN n := by
  obtain ⟨hs, hp, _, _⟩ := ok
  obtain ⟨c0, c1, c2, _, _⟩ := h.cells
  clear h
  go_enter Tryz.func50, Tryz.ntmps50
  go_wp2
  go_quiet (fail)
  go_wp2
  go_ret
  refine ⟨?_, nq, rfl⟩
  show Ending.returned (.int .i64 ((s.length : Int) - p)) = _
  rw [show ((s.length : Int) - p) = ((s.length - p : Nat) : Int) by omega]

def QRel (w : World) (l : List UInt8) (most : Int) (vn vi : Value) (wr : World) : Prop :=
  ∃ i n d : Nat, i ≤ 9 ∧ i ≤ l.length ∧ n < 128 ^ i ∧ vn = .int .i64 n ∧ vi = .int .i64 i ∧ (0 < i → ¬ byt l 0 = 128) ∧ rgo l most 9 0 0 = rgo l most (9 - i) i n ∧ wr = w.drewN d

set_option maxRecDepth 100000 in
set_option maxHeartbeats 1000000 in
theorem qGroups_in (b T : Nat) (s : List UInt8) (p : Nat) (most : Int) (ok : Ok s p 0) (h0 : -9223372036854775808 ≤ most) (h1 : most ≤ 9223372036854775807) (w : World) (h : Rdr w b T s p 0) :
    Calls Tryz.prog 49 #[.pointer (some ⟨b, 0, none⟩), .int .i64 most] w fun e w' => e = .returned (.int .i64 (rdG s p 0 most).1) ∧ Kp [b] w w' ∧ Rdr w' b T s (rdG s p 0 most).2.1 (rdG s p 0 most).2.2 := by
  obtain ⟨c0, c1, c2, f1, f2⟩ := h.cells
  obtain ⟨hs, hp, _, _⟩ := ok
  have H := Lib.hid h; clear h
  have hlen : (s.drop p).length = s.length - p := List.length_drop
  have hbs : ∀ i, byt (s.drop p) i = byt s (p + i) := byt_drop s p
  have HL := Lib.hid hlen; have HB := Lib.hid hbs
  clear hlen hbs
  go_enter Tryz.func49, Tryz.ntmps49
  go_wp2
  go_loopw [5, 6] (fun vn vi wr => QRel w (s.drop p) most vn vi wr) (fun vn vi wr => 9 - (intOf vi).toNat)
  case atStart => exact ⟨0, 0, 0, by omega, by omega, by omega, rfl, rfl, by omega, rfl, rfl⟩
  case round =>
    obtain ⟨i, n, d, hi, hil, hn, rfl, rfl, hb, he, rfl⟩ := hrel
    rw [HL.out] at hil
    have He := Lib.hid he; have Hb := Lib.hid hb
    clear hb he
    by_cases h9 : i < 9
    · have hle : (128 : Nat) ^ i ≤ 128 ^ 8 := Nat.pow_le_pow_right (by omega) (by omega)
      have hn8 : n < 72057594037927936 := by omega
      have Hn := Lib.hid hn; clear hle hn
      have q2 : (0 : Int) ≤ (p : Int) + (i : Int) := by omega
      have q3 : ((p : Int) + (i : Int)).toNat = p + i := by omega
      by_cases hend : s.length ≤ p + i
      · have hE : rgo (s.drop p) most 9 0 0 = (0, 0, 10) := by
          rw [He.out, show 9 - i = (8 - i) + 1 by omega]
          unfold rgo; rw [if_pos (by rw [HL.out]; omega)]
        have HE := Lib.hid (rdG_of_no hE (by decide))
        have q5 : (s.length : Int) ≤ (p : Int) + (i : Int) := by omega
        clear hE
        go_wp2
        have q1 : IntKind.i64.wrap ((p : Int) + (i : Int)) = (p : Int) + (i : Int) := IntWalk.i64_in _ (by omega)
        go_quiet (fail)
        clear q1 q3
        go_wp2
        go_ret
        rw [HE.out]
        exact ⟨rfl, ((Kp.refl _ _).drewN _).set _ (by simp) _, (show Rdr (w.drewN (d + nq)) b T s p 0 from H.out).setC 10⟩
      · have q5 : (p : Int) + (i : Int) < (s.length : Int) := by omega
        have q6 : p + i < s.length := by omega
        have hil' : i < (s.drop p).length := by rw [HL.out]; omega
        have hbt := byt_lt s (p + i)
        have hbq := HB.out i
        have hb0 := HB.out 0
        rw [Nat.add_zero] at hb0
        have Hil := Lib.hid hil'
        clear hend hil'
        by_cases hf : i = 0 ∧ byt s (p + i) = 128
        · obtain ⟨hi0, hf⟩ := hf
          have hE : rgo (s.drop p) most 9 0 0 = (0, 0, 3) := rgo_form _ most 8 0 (by have := Hil.out; omega) (by rw [← hf, ← hbq, hi0])
          have HE := Lib.hid (rdG_of_no hE (by decide))
          have hq1 : (((i : Nat) : Int) == 0) = true := by rw [beq_iff_eq]; omega
          have hq2 : (((byt s (p + i) : Nat) : Int) == 128) = true := by rw [beq_iff_eq]; omega
          clear hE hf hbq hb0 hi0
          go_wp2
          have q1 : IntKind.i64.wrap ((p : Int) + (i : Int)) = (p : Int) + (i : Int) := IntWalk.i64_in _ (by omega)
          go_quiet (fail)
          clear q1
          go_wp2
          have q1 : IntKind.i64.wrap ((p : Int) + (i : Int)) = (p : Int) + (i : Int) := IntWalk.i64_in _ (by omega)
          go_quiet (fail)
          clear q1 q3
          go_wp2
          go_ret
          rw [HE.out]
          exact ⟨rfl, ((Kp.refl _ _).drewN _).set _ (by simp) _, (show Rdr (w.drewN _) b T s p 0 from H.out).setC 3⟩
        · have hf2 : ¬ (i = 0 ∧ byt (s.drop p) 0 = 128) := fun ⟨e, h⟩ => hf ⟨e, by subst e; rw [Nat.add_zero, ← hb0]; exact h⟩
          have hq : ((((i : Nat) : Int) == 0) = true ∧ (((byt s (p + i) : Nat) : Int) == 128) = false) ∨ ((((i : Nat) : Int) == 0) = false) := by
            by_cases hi0 : i = 0
            · left; exact ⟨by rw [beq_iff_eq]; omega, by rw [beq_eq_false_iff_ne]; omega⟩
            · right; rw [beq_eq_false_iff_ne]; omega
          by_cases hm : most < ((n * 128 + byt s (p + i) % 128 : Nat) : Int)
          · have hE : rgo (s.drop p) most 9 0 0 = (0, 0, 2) := by rw [He.out, show 9 - i = (8 - i) + 1 by omega]; exact rgo_long _ most _ i n Hil.out hf2 (by rw [hbq]; exact hm)
            have HE := Lib.hid (rdG_of_no hE (by decide))
            have hm' : most < (n : Int) * 128 + (byt s (p + i) : Int) % 128 := by omega
            clear hE hm hf hf2 hbq hb0
            rcases hq with ⟨hq1, hq2⟩ | hq
            all_goals
              go_wp2
              have q1 : IntKind.i64.wrap ((p : Int) + (i : Int)) = (p : Int) + (i : Int) := IntWalk.i64_in _ (by omega)
              go_quiet (fail)
              clear q1
              go_wp2
              have q1 : IntKind.i64.wrap ((p : Int) + (i : Int)) = (p : Int) + (i : Int) := IntWalk.i64_in _ (by omega)
              go_quiet (fail)
              clear q1 q3
              go_wp2
              go_ret
              rw [HE.out]
              exact ⟨rfl, ((Kp.refl _ _).drewN _).set _ (by simp) _, (show Rdr (w.drewN _) b T s p 0 from H.out).setC 2⟩
          · have hm' : (n : Int) * 128 + (byt s (p + i) : Int) % 128 ≤ most := by omega
            by_cases hs8 : byt s (p + i) < 128
            · have hE : rgo (s.drop p) most 9 0 0 = (n * 128 + byt (s.drop p) i % 128, i + 1, 0) := by rw [He.out, show 9 - i = (8 - i) + 1 by omega]; exact rgo_done _ most _ i n Hil.out hf2 (by rw [hbq]; exact hm) (by rw [hbq]; exact hs8)
              rw [hbq] at hE
              have HE := Lib.hid (rdG_of_yes hE)
              clear hE hm hf hf2 hbq hb0
              rcases hq with ⟨hq1, hq2⟩ | hq
              all_goals
                go_wp2
                have q1 : IntKind.i64.wrap ((p : Int) + (i : Int)) = (p : Int) + (i : Int) := IntWalk.i64_in _ (by omega)
                go_quiet (fail)
                clear q1
                go_wp2
                have q1 : IntKind.i64.wrap ((p : Int) + (i : Int)) = (p : Int) + (i : Int) := IntWalk.i64_in _ (by omega)
                go_quiet (fail)
                clear q1 q3
                go_wp2
                go_ret
                rw [HE.out]
                exact ⟨rfl, ((Kp.refl _ _).drewN _).set _ (by simp) _, H.out.setPN _ (p + (i + 1)) _ (by simp; omega)⟩
            · have hE : rgo (s.drop p) most 9 0 0 = rgo (s.drop p) most (9 - (i + 1)) (i + 1) (n * 128 + byt (s.drop p) i % 128) := by rw [He.out, show 9 - i = (8 - i) + 1 by omega, show 9 - (i + 1) = 8 - i by omega]; exact rgo_more _ most _ i n Hil.out hf2 (by rw [hbq]; exact hm) (by rw [hbq]; exact hs8)
              rw [hbq] at hE
              have hb1 : ¬ byt (s.drop p) 0 = 128 := by
                rcases Nat.eq_zero_or_pos i with h | h
                · exact fun e => hf2 ⟨h, e⟩
                · exact Hb.out h
              have HE := Lib.hid hE
              have Hb1 := Lib.hid hb1
              clear hE hm hf hf2 hbq hb0 hb1
              rcases hq with ⟨hq1, hq2⟩ | hq
              all_goals
                go_wp2
                have q1 : IntKind.i64.wrap ((p : Int) + (i : Int)) = (p : Int) + (i : Int) := IntWalk.i64_in _ (by omega)
                go_quiet (fail)
                clear q1
                go_wp2
                have q1 : IntKind.i64.wrap ((p : Int) + (i : Int)) = (p : Int) + (i : Int) := IntWalk.i64_in _ (by omega)
                go_quiet (fail)
                clear q1 q3
                go_wp2
                go_roundw
                case measure => first | (simp [intOf]; done) | (simp [intOf]; omega)
                case rel =>
                  refine ⟨_, _, _, by omega, by rw [HL.out]; omega, ?_, ?_, ?_, fun _ => Hb1.out, HE.out, rfl⟩
                  · have := Hn.out
                    rw [Nat.pow_succ]; omega
                  · simp
                  · simp
    · obtain rfl : i = 9 := by omega
      have hE : rgo (s.drop p) most 9 0 0 = (0, 0, 3) := He.out
      have HE := Lib.hid (rdG_of_no hE (by decide))
      clear hE hn
      go_wp2
      go_ret
      rw [HE.out]
      exact ⟨rfl, ((Kp.refl _ _).drewN _).set _ (by simp) _, (show Rdr (w.drewN _) b T s p 0 from H.out).setC 3⟩

theorem qGroups_walk (b T : Nat) (s : List UInt8) (p : Nat) (c most : Int) (ok : Ok s p c) (h0 : -9223372036854775808 ≤ most) (h1 : most ≤ 9223372036854775807) (w : World) (h : Rdr w b T s p c) :
    Calls Tryz.prog 49 #[.pointer (some ⟨b, 0, none⟩), .int .i64 most] w fun e w' => e = .returned (.int .i64 (rdG s p c most).1) ∧ Kp [b] w w' ∧ Rdr w' b T s (rdG s p c most).2.1 (rdG s p c most).2.2 := by
  by_cases hc : c = 0
  · subst hc; exact qGroups_in b T s p most ok h0 h1 w h
  · rw [rdG_bad s p c most hc]
    obtain ⟨c0, c1, c2, f1, f2⟩ := h.cells
    have H := Lib.hid h; clear h
    have hn : (c != 0) = true := by rw [bne_iff_ne]; exact hc
    clear hc
    go_enter Tryz.func49, Tryz.ntmps49
    go_wp2
    go_ret
    exact ⟨rfl, Kp.refl _ _, H.out⟩
end Go.Proofs.YtkmfcnilbmckmaaGreatDoor
/- The document's own Decode, walked. -/
namespace Go.Proofs.YtkmfcnilbmckmaaGreatDoor
open Go.ChangeShapes Go.WideShapes Go.ChangeAt Go.RowKit K O6
set_option linter.unusedVariables false

/-- What is told so far, and what is yet to be told. -/
def ahO (xs : List Nat) (x : Option (List Nat)) : Option (List Nat) := match x with | none => none | some r => some (xs ++ r)
theorem ahO_more (xs : List Nat) {l : List UInt8} (h : l ≠ []) (hc : (P1.rgo l 4294967295 9 0 0).2.2 = 0) : ahO xs (gpl l) = ahO (xs ++ [(P1.rgo l 4294967295 9 0 0).1]) (gpl (l.drop (P1.rgo l 4294967295 9 0 0).2.1)) := by
  rw [gpl_step h, if_pos hc]
  cases gpl (l.drop (P1.rgo l 4294967295 9 0 0).2.1) with
  | none => rfl
  | some r => simp [ahO]
theorem ahO_bad (xs : List Nat) {l : List UInt8} (h : l ≠ []) (hc : ¬ (P1.rgo l 4294967295 9 0 0).2.2 = 0) : ahO xs (gpl l) = none := by
  rw [gpl_step h, if_neg hc]; rfl
theorem Below_drewNg {B : Nat} {a b : World} (h : Below B a b) (n : Nat) : Below B a (b.drewN n) := ⟨h.os, h.tape, h.output, h.size, h.block⟩
theorem deA_out {b : List UInt8} {n : Nat} {ys : List Nat} (h1 : b ≠ []) (h2 : b.length ≤ 640) (h : gpl b = some (n :: ys)) : deA b = if isArcs (a0 n :: a1 n :: ys) then some (a0 n :: a1 n :: ys) else none := by
  unfold deA
  rw [if_neg (by rintro (h0 | h0); exact h1 h0; omega), h]
theorem deA_bad {b : List UInt8} (h : gpl b = none) : deA b = none := by
  unfold deA
  by_cases hc : b = [] ∨ 640 < b.length
  · rw [if_pos hc]
  · rw [if_neg hc, h]
theorem quiet_drG {P : Program} {f : FuncId} {args : Array Value} {w : World} {n : Nat} {v : Value}
    (h : Calls P f args (w.drewN n) fun e w' => e = .returned v ∧ ∃ k, w' = (w.drewN n).drewN k) : Calls P f args (w.drewN n) fun e w'' => e = .returned v ∧ ∃ m, w'' = w.drewN m :=
  h.mono fun _ _ ⟨he, k, hk⟩ => ⟨he, n + k, by rw [hk]; unfold World.drewN; simp [Nat.add_assoc]⟩
theorem ownI_two (w : World) (B : Nat) (T : TypeId) (x y : Nat) (hB : B ≤ w.heap.size) : OwnI (w.alloc (.cells #[.int .i64 (x : Nat), .int .i64 (y : Nat)] T)) B T (.slice (some ⟨w.heap.size, 0, none⟩) 2 2) [x, y] :=
  ⟨rfl, .inr ⟨w.heap.size, 2, _, rfl, hB, rowNew w _, Nat.le_refl _, by unfold maxLen; omega, rfl, rfl⟩⟩
theorem ownI_kp {w w' : World} {rb : Nat} {T : TypeId} {v : Value} {cs : List Nat} (h : OwnI w (rb + 1) T v cs) (k : Kp [rb] w w') : OwnI w' (rb + 1) T v cs := by
  refine ⟨h.1, ?_⟩
  rcases h.2 with hn | ⟨g, cap, cur, h1, h2, h3, h4⟩
  · exact .inl hn
  · exact .inr ⟨g, cap, cur, h1, h2, k.heap h3 (by simp; omega), h4⟩
/-- One number more. -/
theorem ahO_next {b : List UInt8} {p : Nat} (xs : List Nat) (hp : p < b.length) :
    (P1.rdG b p 0 4294967295).1 ≤ 4294967295 ∧ ((P1.rdG b p 0 4294967295).2.2 = 0 → p < (P1.rdG b p 0 4294967295).2.1 ∧ ahO xs (gpl (b.drop p)) = ahO (xs ++ [(P1.rdG b p 0 4294967295).1]) (gpl (b.drop (P1.rdG b p 0 4294967295).2.1))) ∧ (¬ (P1.rdG b p 0 4294967295).2.2 = 0 → ahO xs (gpl (b.drop p)) = none) := by
  have hne : b.drop p ≠ [] := by
    intro h
    have := congrArg List.length h
    rw [List.length_drop] at this
    simp at this; omega
  by_cases hc : (P1.rgo (b.drop p) 4294967295 9 0 0).2.2 = 0
  · have hu := rgo_used hc
    have hm := rgo_most (b.drop p) 4294967295 9 0 0 hc
    have ha := ahO_more xs hne hc
    rw [P1.rdG_yes b p 4294967295 hc]
    refine ⟨?_, fun _ => ⟨?_, ?_⟩, fun h => absurd rfl h⟩
    · show (P1.rgo (b.drop p) 4294967295 9 0 0).1 ≤ 4294967295
      omega
    · show p < p + (P1.rgo (b.drop p) 4294967295 9 0 0).2.1
      omega
    · rw [ha, List.drop_drop]
  · rw [P1.rdG_no b p 4294967295 hc]
    exact ⟨Nat.zero_le _, fun h => absurd h hc, fun _ => ahO_bad xs hne hc⟩
/-- The reader at p, the list behind block rb. -/
def DqRel (b : List UInt8) (w : World) (rb n g : Nat) (v : Value) (wr : World) : Prop :=
  ∃ (p : Nat) (c : Int) (ys : List Nat), (b.length - p) + (if c = 0 then 1 else 0) ≤ g ∧ Rdr wr rb 68 b p c ∧ P1.Ok b p c ∧ OwnI wr (rb + 1) 3 v (a0 n :: a1 n :: ys) ∧ (c = 0 → ys.length ≤ p) ∧ ys.length ≤ p + 1 ∧
    (c = 0 → gpl b = ahO (n :: ys) (gpl (b.drop p))) ∧ (¬ c = 0 → gpl b = none) ∧ Below w.heap.size w wr
set_option maxRecDepth 100000 in
set_option maxHeartbeats 2000000 in
theorem qdecode_walk (b : List UInt8) (hb : b.length ≤ 140737488351232) (w : World) :
    Calls Tryz.prog 24 #[.string (bs b)] w fun e w' => e = .returned (.tuple #[.string (bs (deS b)), .int .i64 (deE b : Nat)]) ∧ Below w.heap.size w w' := by
  by_cases hout : b = [] ∨ 640 < b.length
  · have hd : deA b = none := by unfold deA; rw [if_pos hout]
    rw [(de_none hd).1, (de_none hd).2]
    clear hd
    by_cases hn : b = []
    · subst hn
      go_enter Tryz.func24, Tryz.ntmps24
      go_wp2
      try go_quiet (fail)
      try go_wp2
      go_ret2
      exact ⟨rfl, by first | exact Below.refl _ _ | exact Below_drewNg (Below.refl _ _) _⟩
    · have hne : b.isEmpty = false := List.isEmpty_eq_false_iff.2 hn
      have h6 : (640 : Int) < ((b.length : Nat) : Int) := by
        rcases hout with h | h
        · exact absurd h hn
        · omega
      clear hout hn
      go_enter Tryz.func24, Tryz.ntmps24
      go_wp2
      try go_quiet (fail)
      try go_wp2
      go_ret2
      exact ⟨rfl, by first | exact Below.refl _ _ | exact Below_drewNg (Below.refl _ _) _⟩
  · have hn : b ≠ [] := fun h => hout (.inl h)
    have h6 : b.length ≤ 640 := by
      rcases Nat.lt_or_ge 640 b.length with h | h
      · exact absurd (.inr h) hout
      · exact h
    have hne : b.isEmpty = false := List.isEmpty_eq_false_iff.2 hn
    have h6' : ((b.length : Nat) : Int) ≤ 640 := by omega
    have HOUT := Lib.hid (fun n ys (h : gpl b = some (n :: ys)) => deA_out hn h6 h)
    have HBAD := Lib.hid (fun (h : gpl b = none) => deA_bad h)
    obtain ⟨i0, hi, hz0, hz1, hz2⟩ := info_of int_info6
    clear hout
    go_enter Tryz.func24, Tryz.ntmps24
    go_wp2_with fail
    have hr0 : Rdr (w.alloc (.cells #[.string (bs b), .int .i64 0, .int .i64 0] 68)) w.heap.size 68 b 0 0 := rowNew w _
    have ok0 : P1.Ok b 0 0 := ⟨hb, Nat.zero_le _, by omega, by omega⟩
    have b0 : Below w.heap.size w (w.alloc (.cells #[.string (bs b), .int .i64 0, .int .i64 0] 68)) := (Below.refl _ _).alloc (Nat.le_refl _) _
    have hlt0 : w.heap.size < (w.alloc (.cells #[.string (bs b), .int .i64 0, .int .i64 0] 68)).heap.size := by simp
    generalize w.alloc (.cells #[.string (bs b), .int .i64 0, .int .i64 0] 68) = w0 at *
    refine (qGroups_walk w.heap.size 68 b 0 0 4294967295 ok0 (by omega) (by omega) w0 hr0).mono ?_
    rintro e w1 ⟨rfl, k1, r1⟩
    obtain ⟨ok1, hn1, hp1⟩ := P1.rdG_ok b 0 0 4294967295 ok0
    have hsem : ((P1.rdG b 0 0 4294967295).1 ≤ 4294967295) ∧ ((P1.rdG b 0 0 4294967295).2.2 = 0 → gpl b = ahO [(P1.rdG b 0 0 4294967295).1] (gpl (b.drop (P1.rdG b 0 0 4294967295).2.1))) ∧ (¬ (P1.rdG b 0 0 4294967295).2.2 = 0 → gpl b = none) := by
      by_cases hc : (P1.rgo (b.drop 0) 4294967295 9 0 0).2.2 = 0
      · rw [P1.rdG_yes b 0 4294967295 hc]
        rw [List.drop_zero] at hc ⊢
        refine ⟨?_, fun _ => ?_, fun h => absurd rfl h⟩
        · have := rgo_most b 4294967295 9 0 0 hc
          show (P1.rgo b 4294967295 9 0 0).1 ≤ 4294967295
          omega
        · have h := ahO_more [] hn hc
          rw [Nat.zero_add]
          cases hg : gpl b with
          | none => rw [hg] at h; exact h
          | some r => rw [hg] at h; exact h
      · rw [P1.rdG_no b 0 4294967295 hc]
        refine ⟨Nat.zero_le _, fun h => absurd h hc, fun _ => ?_⟩
        rw [List.drop_zero] at hc
        rw [gpl_step hn, if_neg hc]
    generalize P1.rdG b 0 0 4294967295 = q at *
    obtain ⟨N, p1, c1⟩ := q
    simp only [] at r1 ok1 hn1 hp1 hsem
    obtain ⟨hN, hs0, hs1⟩ := hsem
    have b1 : Below w.heap.size w w1 := b0.trans (k1.below (by omega) (by simp))
    have hlt1 : w.heap.size < w1.heap.size := Nat.lt_of_lt_of_le hlt0 k1.size
    clear hr0 ok0 b0 k1 hlt0
    generalize hgg : w.heap.size = rb at *
    have HS0 := Lib.hid hs0
    have HS1 := Lib.hid hs1
    clear hs0 hs1
    have hN0 : (0 : Int) ≤ (N : Nat) := by omega
    have hq0 : (0 : Int) ≤ (N : Nat) / 40 := by omega
    have hcs : (((N : Nat) : Int) / 40 ≤ 2 ∧ ((N : Nat) : Int) / 40 = (a0 N : Nat)) ∨ (2 < ((N : Nat) : Int) / 40 ∧ (2 : Int) = (a0 N : Nat)) := by unfold a0; omega
    have ha1 : ((N : Nat) : Int) - 40 * (a0 N : Nat) = (a1 N : Nat) := by have := a_back N; omega
    have ha2 : ((a1 N : Nat) : Int) ≤ 4294967295 := by omega
    have ha0 : ((a0 N : Nat) : Int) ≤ 2 := by have := a_back N; omega
    have hs2 : rb + 1 ≤ w1.heap.size := by omega
    have r2 : Rdr (w1.alloc (.cells #[.int .i64 (a0 N : Nat), .int .i64 (a1 N : Nat)] 3)) rb 68 b p1 c1 := (Below.heap_alloc _ _ _ hlt1).trans r1
    have hst : DqRel b w rb N (b.length + 1) (.slice (some ⟨w1.heap.size, 0, none⟩) 2 2) (w1.alloc (.cells #[.int .i64 (a0 N : Nat), .int .i64 (a1 N : Nat)] 3)) :=
      ⟨p1, c1, [], by split <;> omega, r2, ok1, ownI_two w1 (rb + 1) 3 (a0 N) (a1 N) hs2, fun _ => Nat.zero_le _, Nat.zero_le _, HS0.out, HS1.out, by rw [hgg]; exact b1.alloc (by omega) _⟩
    have HST := Lib.hid hst
    clear hst r2 r1 ok1 HS0 HS1 b1
    rcases hcs with ⟨hca, hcb⟩ | ⟨hca, hcb⟩
    all_goals
      clear hcb
      go_wp2_with fail
      go_loopg [7] (b.length + 1) (fun g v wr => DqRel b w rb N g v wr)
      case atStart =>
        first
        | (have h := HST.out
           rw [show ((a0 N : Nat) : Int) = (N : Int) / 40 by unfold a0; omega, show ((a1 N : Nat) : Int) = (N : Int) - 40 * ((N : Int) / 40) by unfold a1 a0; omega] at h
           exact h)
        | (have h := HST.out
           rw [show ((a0 N : Nat) : Int) = 2 by unfold a0; omega, show ((a1 N : Nat) : Int) = (N : Int) - 80 by unfold a1 a0; omega] at h
           exact h)
      case round =>
        clear HST ha1 ha2 ha0 hca hq0
        obtain ⟨p, c, ys, hg, hr, ok, ho, hy0, hy, h0, h1, hbl⟩ := hrel
        have hpb := ok.at_
        have HY := Lib.hid hy0
        clear hy0
        have H0 := Lib.hid h0
        have H1 := Lib.hid h1
        clear h0 h1
        obtain ⟨q0, q1, q2, _, f2⟩ := hr.cells
        obtain ⟨ao, cap, rfl, hz⟩ := RdZ.own ho
        have hlen : (a0 N :: a1 N :: ys).length = ys.length + 2 := rfl
        by_cases hpl : p < b.length
        · have hleft : (0 : Int) < ((b.length - p : Nat) : Int) := by omega
          by_cases hc : c = 0
          · have HGP := Lib.hid (H0.out hc)
            have hyp := HY.out hc
            subst hc
            clear HY H0
            go_wp2_with fail
            refine (qLeft_walk rb 68 b p 0 ok _ hr).mono ?_
            rintro e x1 ⟨rfl, kk, rfl⟩
            cases gk with
            | zero => simp at hg
            | succ gk =>
            have hg' : b.length - p ≤ gk := by simp at hg; omega
            obtain ⟨hx, hok, hno⟩ := ahO_next (N :: ys) hpl
            obtain ⟨ok2, _, hpp2⟩ := P1.rdG_ok b p 0 4294967295 ok
            go_wp2_with fail
            refine Calls.mono (qGroups_walk rb 68 b p 0 4294967295 ok (by omega) (by omega) _ (show Rdr (wr.drewN kk) rb 68 b p 0 from hr)) ?_
            rintro e x2 ⟨rfl, k2, r3⟩
            have ho3 : OwnI x2 (rb + 1) 3 (.slice ao (ys.length + 2) cap) (a0 N :: a1 N :: ys) := ownI_kp ho k2.ofDrewN
            have b3 : Below w.heap.size w x2 := hbl.trans (k2.ofDrewN.below hbl.size (by rw [hgg]; simp))
            have hrs : rb + 1 ≤ x2.heap.size := by have := lt_of_block r3; omega
            rw [← HGP.out] at hok hno
            generalize P1.rdG b p 0 4294967295 = q at *
            obtain ⟨X, p2, c2⟩ := q
            simp only [] at hx hok hno ok2 r3 hpp2
            have HOK := Lib.hid hok; have HNO := Lib.hid hno; have HR3 := Lib.hid r3; have HOK2 := Lib.hid ok2; have HO := Lib.hid ho3.1
            have hys : ys.length ≤ 640 := by omega
            clear hok hno r3 ok2 ok ho hr H1 q0 q1 q2 f2 hbl k2 hz hg
            go_wp2_with (at_builtin; refine wpList_append_own _ rfl _ _ 63 rfl (rb + 1) 3 i0 (.int .i64 0) 1 8 Tryz.underlying63 hi hz0 hz1 hz2 rfl (by decide) _ _ _ rfl (World.ownsRow.alloc ho3 _) ⟨x2.heap.size, 0, none⟩ 1 1 [.int .i64 (X : Nat)] rfl rfl ?c1 ?c2 ?c3 ?c4 ?c5 ?_)
            case c1 =>
              intro j u hj
              match j, hj with
              | 0, hj => simp at hj; subst hj; simp [Addr.add]
            case c2 => intro u hu; simp at hu; subst hu; rfl
            case c3 => unfold maxLen; rw [hlen]; omega
            case c4 => rw [hlen]; omega
            case c5 => simp; omega
            intro v' w4 hown' hgrow _
            have b4 := (b3.alloc (by have := b3.size; omega) (.cells #[.int .i64 (X : Nat)] 3)).grown hgrow (by have := b3.size; simp; omega) (fun k hk => by have := (World.ownsRow.lt ho3 k hk).1; omega)
            have k6 := ((Below.refl (rb + 1) x2).alloc (by omega) (.cells #[.int .i64 (X : Nat)] 3)).grown hgrow (by simp; omega) (fun k hk => (World.ownsRow.lt ho3 k hk).1)
            have r6 : Rdr w4 rb 68 b p2 c2 := (k6.block rb (Nat.lt_succ_self rb)).trans HR3.out
            have ho4 : OwnI w4 (rb + 1) 3 v' (a0 N :: a1 N :: ys ++ [X]) := OwnI.put hown'
            have hnew : DqRel b w rb N gk v' w4 := by
              have HOKo := HOK.out
              have HNOo := HNO.out
              by_cases hc2 : c2 = 0
              · obtain ⟨e1, e2⟩ := HOKo hc2
                exact ⟨p2, c2, ys ++ [X], by rw [if_pos hc2]; omega, r6, HOK2.out, ho4, fun _ => by rw [List.length_append]; simp; omega, by rw [List.length_append]; simp; omega, fun _ => e2, fun h => absurd hc2 h, b4⟩
              · exact ⟨p2, c2, ys ++ [X], by rw [if_neg hc2]; omega, r6, HOK2.out, ho4, fun h => absurd h hc2, by rw [List.length_append]; simp; omega, fun h => absurd h hc2, fun h => HNOo h, b4⟩
            have HN := Lib.hid hnew
            clear hown' hgrow ho3 b3 b4 k6 r6 ho4 hnew HOK HNO HR3 HOK2 HO
            go_wp2
            go_roundg gk
            case measure => omega
            case rel => exact HN.out
          · have hcb : (c == 0) = false := by rw [beq_eq_false_iff_ne]; exact hc
            have hcb2 : (c != 0) = true := by rw [bne_iff_ne]; exact hc
            have HV := Lib.hid (de_none (HBAD.out (H1.out hc)))
            clear hc H0 H1 HOUT HBAD ho hz
            go_wp2_with fail
            refine (qLeft_walk rb 68 b p c ok _ hr).mono ?_
            rintro e x1 ⟨rfl, kk, rfl⟩
            have b5 := Below_drewNg hbl kk
            go_wp2
            go_ret2
            rw [HV.out.1, HV.out.2]
            exact ⟨rfl, b5⟩
        · have hleft : ((b.length - p : Nat) : Int) ≤ 0 := by omega
          have hdp : b.drop p = [] := List.drop_eq_nil_of_le (by omega)
          by_cases hc : c = 0
          · have hgp := H0.out hc
            subst hc
            clear HY
            rw [hdp, gpl_nil] at hgp
            have hgp2 : gpl b = some (N :: ys) := by rw [hgp]; show some (N :: ys ++ []) = _; rw [List.append_nil]
            have hd := HOUT.out N ys hgp2
            have hI := fun w1 (h : RdZ w1 ao (ys.length + 2) (fz (a0 N :: a1 N :: ys))) => qis_walk ao (ys.length + 2) cap (fz (a0 N :: a1 N :: ys)) (by omega) w1 h
            have hzi := isZ_fz (a0 N :: a1 N :: ys)
            rw [hlen] at hzi
            rw [hzi] at hI
            rw [hlen] at hz
            cases hia : isArcs (a0 N :: a1 N :: ys)
            · rw [hia] at hI hd
              have HV := Lib.hid (de_none hd)
              have HI := Lib.hid hI
              have HZ := Lib.hid hz
              clear hd hI hgp hgp2 H0 H1 HOUT HBAD ho hz hzi hia
              go_wp2_with fail
              refine (qLeft_walk rb 68 b p 0 ok _ hr).mono ?_
              rintro e x1 ⟨rfl, kk, rfl⟩
              have b5 := Below_drewNg hbl kk
              go_wp2_with fail
              refine (HI.out _ (show RdZ (wr.drewN kk) ao (ys.length + 2) _ from HZ.out)).mono ?_
              rintro e x1 ⟨rfl, rfl⟩
              go_wp2
              go_ret2
              rw [HV.out.1, HV.out.2]
              exact ⟨rfl, b5⟩
            · have hP := fun w1 (h : RdZ w1 ao (ys.length + 2) (fz (a0 N :: a1 N :: ys))) => qputs_walk (a0 N :: a1 N :: ys) (isArcs_le hia) (by have := isArcs_len hia; omega) ao cap w1 h
              rw [hlen] at hP
              rw [hia, if_pos rfl] at hd
              rw [hia] at hI
              have HV := Lib.hid (de_some hd)
              have HI := Lib.hid hI
              have HZ := Lib.hid hz
              have HP := Lib.hid hP
              clear hd hI hgp hgp2 H0 H1 HOUT HBAD ho hz hzi hia hP
              go_wp2_with fail
              refine (qLeft_walk rb 68 b p 0 ok _ hr).mono ?_
              rintro e x1 ⟨rfl, kk, rfl⟩
              have b5 := Below_drewNg hbl kk
              go_wp2_with fail
              refine (HI.out _ (show RdZ (wr.drewN kk) ao (ys.length + 2) _ from HZ.out)).mono ?_
              rintro e x1 ⟨rfl, rfl⟩
              go_wp2_with fail
              refine (HP.out _ (show RdZ (wr.drewN kk) ao (ys.length + 2) _ from HZ.out)).mono ?_
              rintro e x2 ⟨rfl, d2⟩
              go_wp2
              go_ret2
              rw [HV.out.1, HV.out.2]
              exact ⟨rfl, b5.trans (d2.mono b5.size)⟩
          · have hcb : (c == 0) = false := by rw [beq_eq_false_iff_ne]; exact hc
            have hcb2 : (c != 0) = true := by rw [bne_iff_ne]; exact hc
            have HV := Lib.hid (de_none (HBAD.out (H1.out hc)))
            clear hc H0 H1 HOUT HBAD ho hz
            go_wp2_with fail
            refine (qLeft_walk rb 68 b p c ok _ hr).mono ?_
            rintro e x1 ⟨rfl, kk, rfl⟩
            have b5 := Below_drewNg hbl kk
            go_wp2
            go_ret2
            rw [HV.out.1, HV.out.2]
            exact ⟨rfl, b5⟩
end Go.Proofs.YtkmfcnilbmckmaaGreatDoor
