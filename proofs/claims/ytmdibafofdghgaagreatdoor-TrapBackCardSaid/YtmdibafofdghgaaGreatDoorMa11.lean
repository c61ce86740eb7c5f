/- Texts on the program and on the document, joined: OidG, Grp, OidE. -/
import Derived.Test.YtmdibafofdghgaaGreatDoorMa10
import Derived.Test.YtmdibafofdghgaaGreatDoorMa08
import Derived.BigQuiet
import Derived.Deep.QuietTactic
import Derived.Deep.RegionWith
import Derived.Test.YtmdibafofdghgaaGreatDoorRows
import Derived.Test.YtmdibafofdghgaaGreatDoorMa01
import Derived.ProofKit
import Derived.OpenShut
import Derived.ShutString
import Derived.Deep.RegionHeld3
/- The document's own Decode, walked. -/
namespace Go.Proofs.YtmdibafofdghgaaGreatDoor
open Go.ChangeShapes Go.WideShapes Go.ChangeAt Go.RowKit K O6
set_option linter.unusedVariables false

/-- What is told so far, and what is yet to be told. -/
def ahO (xs : List Nat) (x : Option (List Nat)) : Option (List Nat) := match x with | none => none | some r => some (xs ++ r)
theorem ahO_more (xs : List Nat) {l : List UInt8} (h : l ≠ []) (hc : (P1.rgo l 4294967295 9 0 0).2.2 = 0) : ahO xs (gpl l) = ahO (xs ++ [(P1.rgo l 4294967295 9 0 0).1]) (gpl (l.drop (P1.rgo l 4294967295 9 0 0).2.1)) := by
  rw [gpl_step h, if_pos hc]
  cases gpl (l.drop (P1.rgo l 4294967295 9 0 0).2.1) with
  | none => rfl
  | some r => simp [ahO]
theorem ahO_bad (xs : List Nat) {l : List UInt8} (h : l ≠ []) (hc : ¬ (P1.rgo l 4294967295 9 0 0).2.2 = 0) : ahO xs (gpl l) = none := by
  rw [gpl_step h, if_neg hc]; rfl
theorem Below_drewNg {B : Nat} {a b : World} (h : Below B a b) (n : Nat) : Below B a (b.drewN n) := ⟨h.os, h.tape, h.output, h.size, h.block⟩
theorem deA_out {b : List UInt8} {n : Nat} {ys : List Nat} (h1 : b ≠ []) (h2 : b.length ≤ 640) (h : gpl b = some (n :: ys)) : deA b = if isArcs (a0 n :: a1 n :: ys) then some (a0 n :: a1 n :: ys) else none := by
  unfold deA
  rw [if_neg (by rintro (h0 | h0); exact h1 h0; omega), h]
theorem deA_bad {b : List UInt8} (h : gpl b = none) : deA b = none := by
  unfold deA
  by_cases hc : b = [] ∨ 640 < b.length
  · rw [if_pos hc]
  · rw [if_neg hc, h]
theorem quiet_drG {P : Program} {f : FuncId} {args : Array Value} {w : World} {n : Nat} {v : Value}
    (h : Calls P f args (w.drewN n) fun e w' => e = .returned v ∧ ∃ k, w' = (w.drewN n).drewN k) : Calls P f args (w.drewN n) fun e w'' => e = .returned v ∧ ∃ m, w'' = w.drewN m :=
  h.mono fun _ _ ⟨he, k, hk⟩ => ⟨he, n + k, by rw [hk]; unfold World.drewN; simp [Nat.add_assoc]⟩
theorem ownI_two (w : World) (B : Nat) (T : TypeId) (x y : Nat) (hB : B ≤ w.heap.size) : OwnI (w.alloc (.cells #[.int .i64 (x : Nat), .int .i64 (y : Nat)] T)) B T (.slice (some ⟨w.heap.size, 0, none⟩) 2 2) [x, y] :=
  ⟨rfl, .inr ⟨w.heap.size, 2, _, rfl, hB, rowNew w _, Nat.le_refl _, by unfold maxLen; omega, rfl, rfl⟩⟩
theorem ownI_kp {w w' : World} {rb : Nat} {T : TypeId} {v : Value} {cs : List Nat} (h : OwnI w (rb + 1) T v cs) (k : Kp [rb] w w') : OwnI w' (rb + 1) T v cs := by
  refine ⟨h.1, ?_⟩
  rcases h.2 with hn | ⟨g, cap, cur, h1, h2, h3, h4⟩
  · exact .inl hn
  · exact .inr ⟨g, cap, cur, h1, h2, k.heap h3 (by simp; omega), h4⟩
/-- One number more. -/
theorem ahO_next {b : List UInt8} {p : Nat} (xs : List Nat) (hp : p < b.length) :
    (P1.rdG b p 0 4294967295).1 ≤ 4294967295 ∧ ((P1.rdG b p 0 4294967295).2.2 = 0 → p < (P1.rdG b p 0 4294967295).2.1 ∧ ahO xs (gpl (b.drop p)) = ahO (xs ++ [(P1.rdG b p 0 4294967295).1]) (gpl (b.drop (P1.rdG b p 0 4294967295).2.1))) ∧ (¬ (P1.rdG b p 0 4294967295).2.2 = 0 → ahO xs (gpl (b.drop p)) = none) := by
  have hne : b.drop p ≠ [] := by
    intro h
    have := congrArg List.length h
    rw [List.length_drop] at this
    simp at this; omega
  by_cases hc : (P1.rgo (b.drop p) 4294967295 9 0 0).2.2 = 0
  · have hu := rgo_used hc
    have hm := rgo_most (b.drop p) 4294967295 9 0 0 hc
    have ha := ahO_more xs hne hc
    rw [P1.rdG_yes b p 4294967295 hc]
    refine ⟨?_, fun _ => ⟨?_, ?_⟩, fun h => absurd rfl h⟩
    · show (P1.rgo (b.drop p) 4294967295 9 0 0).1 ≤ 4294967295
      omega
    · show p < p + (P1.rgo (b.drop p) 4294967295 9 0 0).2.1
      omega
    · rw [ha, List.drop_drop]
  · rw [P1.rdG_no b p 4294967295 hc]
    exact ⟨Nat.zero_le _, fun h => absurd h hc, fun _ => ahO_bad xs hne hc⟩
/-- The reader at p, the list behind block rb. -/
def DqRel (b : List UInt8) (w : World) (rb n g : Nat) (v : Value) (wr : World) : Prop :=
  ∃ (p : Nat) (c : Int) (ys : List Nat), (b.length - p) + (if c = 0 then 1 else 0) ≤ g ∧ Rdr wr rb 146 b p c ∧ P1.Ok b p c ∧ OwnI wr (rb + 1) 3 v (a0 n :: a1 n :: ys) ∧ (c = 0 → ys.length ≤ p) ∧ ys.length ≤ p + 1 ∧
    (c = 0 → gpl b = ahO (n :: ys) (gpl (b.drop p))) ∧ (¬ c = 0 → gpl b = none) ∧ Below w.heap.size w wr
set_option maxRecDepth 100000 in
set_option maxHeartbeats 2000000 in
theorem qdecode_walk (b : List UInt8) (hb : b.length ≤ 140737488351232) (w : World) :
    Calls Tryz.prog 73 #[.string (bs b)] w fun e w' => e = .returned (.tuple #[.string (bs (deS b)), .int .i64 (deE b : Nat)]) ∧ Below w.heap.size w w' := by
  by_cases hout : b = [] ∨ 640 < b.length
  · have hd : deA b = none := by unfold deA; rw [if_pos hout]
    rw [(de_none hd).1, (de_none hd).2]
    clear hd
    by_cases hn : b = []
    · subst hn
      go_enter Tryz.func73, Tryz.ntmps73
      go_wp2
      try go_quiet (fail)
      try go_wp2
      go_ret2
      exact ⟨rfl, by first | exact Below.refl _ _ | exact Below_drewNg (Below.refl _ _) _⟩
    · have hne : b.isEmpty = false := List.isEmpty_eq_false_iff.2 hn
      have h6 : (640 : Int) < ((b.length : Nat) : Int) := by
        rcases hout with h | h
        · exact absurd h hn
        · omega
      clear hout hn
      go_enter Tryz.func73, Tryz.ntmps73
      go_wp2
      try go_quiet (fail)
      try go_wp2
      go_ret2
      exact ⟨rfl, by first | exact Below.refl _ _ | exact Below_drewNg (Below.refl _ _) _⟩
  · have hn : b ≠ [] := fun h => hout (.inl h)
    have h6 : b.length ≤ 640 := by
      rcases Nat.lt_or_ge 640 b.length with h | h
      · exact absurd (.inr h) hout
      · exact h
    have hne : b.isEmpty = false := List.isEmpty_eq_false_iff.2 hn
    have h6' : ((b.length : Nat) : Int) ≤ 640 := by omega
    have HOUT := Lib.hid (fun n ys (h : gpl b = some (n :: ys)) => deA_out hn h6 h)
    have HBAD := Lib.hid (fun (h : gpl b = none) => deA_bad h)
    obtain ⟨i0, hi, hz0, hz1, hz2⟩ := info_of int_info6
    clear hout
    go_enter Tryz.func73, Tryz.ntmps73
    go_wp2_with fail
    have hr0 : Rdr (w.alloc (.cells #[.string (bs b), .int .i64 0, .int .i64 0] 146)) w.heap.size 146 b 0 0 := rowNew w _
    have ok0 : P1.Ok b 0 0 := ⟨hb, Nat.zero_le _, by omega, by omega⟩
    have b0 : Below w.heap.size w (w.alloc (.cells #[.string (bs b), .int .i64 0, .int .i64 0] 146)) := (Below.refl _ _).alloc (Nat.le_refl _) _
    have hlt0 : w.heap.size < (w.alloc (.cells #[.string (bs b), .int .i64 0, .int .i64 0] 146)).heap.size := by simp
    generalize w.alloc (.cells #[.string (bs b), .int .i64 0, .int .i64 0] 146) = w0 at *
    refine (qGroups_walk w.heap.size 146 b 0 0 4294967295 ok0 (by omega) (by omega) w0 hr0).mono ?_
    rintro e w1 ⟨rfl, k1, r1⟩
    obtain ⟨ok1, hn1, hp1⟩ := P1.rdG_ok b 0 0 4294967295 ok0
    have hsem : ((P1.rdG b 0 0 4294967295).1 ≤ 4294967295) ∧ ((P1.rdG b 0 0 4294967295).2.2 = 0 → gpl b = ahO [(P1.rdG b 0 0 4294967295).1] (gpl (b.drop (P1.rdG b 0 0 4294967295).2.1))) ∧ (¬ (P1.rdG b 0 0 4294967295).2.2 = 0 → gpl b = none) := by
      by_cases hc : (P1.rgo (b.drop 0) 4294967295 9 0 0).2.2 = 0
      · rw [P1.rdG_yes b 0 4294967295 hc]
        rw [List.drop_zero] at hc ⊢
        refine ⟨?_, fun _ => ?_, fun h => absurd rfl h⟩
        · have := rgo_most b 4294967295 9 0 0 hc
          show (P1.rgo b 4294967295 9 0 0).1 ≤ 4294967295
          omega
        · have h := ahO_more [] hn hc
          rw [Nat.zero_add]
          cases hg : gpl b with
          | none => rw [hg] at h; exact h
          | some r => rw [hg] at h; exact h
      · rw [P1.rdG_no b 0 4294967295 hc]
        refine ⟨Nat.zero_le _, fun h => absurd h hc, fun _ => ?_⟩
        rw [List.drop_zero] at hc
        rw [gpl_step hn, if_neg hc]
    generalize P1.rdG b 0 0 4294967295 = q at *
    obtain ⟨N, p1, c1⟩ := q
    simp only [] at r1 ok1 hn1 hp1 hsem
    obtain ⟨hN, hs0, hs1⟩ := hsem
    have b1 : Below w.heap.size w w1 := b0.trans (k1.below (by omega) (by simp))
    have hlt1 : w.heap.size < w1.heap.size := Nat.lt_of_lt_of_le hlt0 k1.size
    clear hr0 ok0 b0 k1 hlt0
    generalize hgg : w.heap.size = rb at *
    have HS0 := Lib.hid hs0
    have HS1 := Lib.hid hs1
    clear hs0 hs1
    have hN0 : (0 : Int) ≤ (N : Nat) := by omega
    have hq0 : (0 : Int) ≤ (N : Nat) / 40 := by omega
    have hcs : (((N : Nat) : Int) / 40 ≤ 2 ∧ ((N : Nat) : Int) / 40 = (a0 N : Nat)) ∨ (2 < ((N : Nat) : Int) / 40 ∧ (2 : Int) = (a0 N : Nat)) := by unfold a0; omega
    have ha1 : ((N : Nat) : Int) - 40 * (a0 N : Nat) = (a1 N : Nat) := by have := a_back N; omega
    have ha2 : ((a1 N : Nat) : Int) ≤ 4294967295 := by omega
    have ha0 : ((a0 N : Nat) : Int) ≤ 2 := by have := a_back N; omega
    have hs2 : rb + 1 ≤ w1.heap.size := by omega
    have r2 : Rdr (w1.alloc (.cells #[.int .i64 (a0 N : Nat), .int .i64 (a1 N : Nat)] 3)) rb 146 b p1 c1 := (Below.heap_alloc _ _ _ hlt1).trans r1
    have hst : DqRel b w rb N (b.length + 1) (.slice (some ⟨w1.heap.size, 0, none⟩) 2 2) (w1.alloc (.cells #[.int .i64 (a0 N : Nat), .int .i64 (a1 N : Nat)] 3)) :=
      ⟨p1, c1, [], by split <;> omega, r2, ok1, ownI_two w1 (rb + 1) 3 (a0 N) (a1 N) hs2, fun _ => Nat.zero_le _, Nat.zero_le _, HS0.out, HS1.out, by rw [hgg]; exact b1.alloc (by omega) _⟩
    have HST := Lib.hid hst
    clear hst r2 r1 ok1 HS0 HS1 b1
    rcases hcs with ⟨hca, hcb⟩ | ⟨hca, hcb⟩
    all_goals
      clear hcb
      go_wp2_with fail
      go_loopg [7] (b.length + 1) (fun g v wr => DqRel b w rb N g v wr)
      case atStart =>
        first
        | (have h := HST.out
           rw [show ((a0 N : Nat) : Int) = (N : Int) / 40 by unfold a0; omega, show ((a1 N : Nat) : Int) = (N : Int) - 40 * ((N : Int) / 40) by unfold a1 a0; omega] at h
           exact h)
        | (have h := HST.out
           rw [show ((a0 N : Nat) : Int) = 2 by unfold a0; omega, show ((a1 N : Nat) : Int) = (N : Int) - 80 by unfold a1 a0; omega] at h
           exact h)
      case round =>
        clear HST ha1 ha2 ha0 hca hq0
        obtain ⟨p, c, ys, hg, hr, ok, ho, hy0, hy, h0, h1, hbl⟩ := hrel
        have hpb := ok.at_
        have HY := Lib.hid hy0
        clear hy0
        have H0 := Lib.hid h0
        have H1 := Lib.hid h1
        clear h0 h1
        obtain ⟨q0, q1, q2, _, f2⟩ := hr.cells
        obtain ⟨ao, cap, rfl, hz⟩ := RdZ.own ho
        have hlen : (a0 N :: a1 N :: ys).length = ys.length + 2 := rfl
        by_cases hpl : p < b.length
        · have hleft : (0 : Int) < ((b.length - p : Nat) : Int) := by omega
          by_cases hc : c = 0
          · have HGP := Lib.hid (H0.out hc)
            have hyp := HY.out hc
            subst hc
            clear HY H0
            go_wp2_with fail
            refine (qLeft_walk rb 146 b p 0 ok _ hr).mono ?_
            rintro e x1 ⟨rfl, kk, rfl⟩
            cases gk with
            | zero => simp at hg
            | succ gk =>
            have hg' : b.length - p ≤ gk := by simp at hg; omega
            obtain ⟨hx, hok, hno⟩ := ahO_next (N :: ys) hpl
            obtain ⟨ok2, _, hpp2⟩ := P1.rdG_ok b p 0 4294967295 ok
            go_wp2_with fail
            refine Calls.mono (qGroups_walk rb 146 b p 0 4294967295 ok (by omega) (by omega) _ (show Rdr (wr.drewN kk) rb 146 b p 0 from hr)) ?_
            rintro e x2 ⟨rfl, k2, r3⟩
            have ho3 : OwnI x2 (rb + 1) 3 (.slice ao (ys.length + 2) cap) (a0 N :: a1 N :: ys) := ownI_kp ho k2.ofDrewN
            have b3 : Below w.heap.size w x2 := hbl.trans (k2.ofDrewN.below hbl.size (by rw [hgg]; simp))
            have hrs : rb + 1 ≤ x2.heap.size := by have := lt_of_block r3; omega
            rw [← HGP.out] at hok hno
            generalize P1.rdG b p 0 4294967295 = q at *
            obtain ⟨X, p2, c2⟩ := q
            simp only [] at hx hok hno ok2 r3 hpp2
            have HOK := Lib.hid hok; have HNO := Lib.hid hno; have HR3 := Lib.hid r3; have HOK2 := Lib.hid ok2; have HO := Lib.hid ho3.1
            have hys : ys.length ≤ 640 := by omega
            clear hok hno r3 ok2 ok ho hr H1 q0 q1 q2 f2 hbl k2 hz hg
            go_wp2_with (at_builtin; refine wpList_append_own _ rfl _ _ 134 rfl (rb + 1) 3 i0 (.int .i64 0) 1 8 Tryz.underlying134 hi hz0 hz1 hz2 rfl (by decide) _ _ _ rfl (World.ownsRow.alloc ho3 _) ⟨x2.heap.size, 0, none⟩ 1 1 [.int .i64 (X : Nat)] rfl rfl ?c1 ?c2 ?c3 ?c4 ?c5 ?_)
            case c1 =>
              intro j u hj
              match j, hj with
              | 0, hj => simp at hj; subst hj; simp [Addr.add]
            case c2 => intro u hu; simp at hu; subst hu; rfl
            case c3 => unfold maxLen; rw [hlen]; omega
            case c4 => rw [hlen]; omega
            case c5 => simp; omega
            intro v' w4 hown' hgrow _
            have b4 := (b3.alloc (by have := b3.size; omega) (.cells #[.int .i64 (X : Nat)] 3)).grown hgrow (by have := b3.size; simp; omega) (fun k hk => by have := (World.ownsRow.lt ho3 k hk).1; omega)
            have k6 := ((Below.refl (rb + 1) x2).alloc (by omega) (.cells #[.int .i64 (X : Nat)] 3)).grown hgrow (by simp; omega) (fun k hk => (World.ownsRow.lt ho3 k hk).1)
            have r6 : Rdr w4 rb 146 b p2 c2 := (k6.block rb (Nat.lt_succ_self rb)).trans HR3.out
            have ho4 : OwnI w4 (rb + 1) 3 v' (a0 N :: a1 N :: ys ++ [X]) := OwnI.put hown'
            have hnew : DqRel b w rb N gk v' w4 := by
              have HOKo := HOK.out
              have HNOo := HNO.out
              by_cases hc2 : c2 = 0
              · obtain ⟨e1, e2⟩ := HOKo hc2
                exact ⟨p2, c2, ys ++ [X], by rw [if_pos hc2]; omega, r6, HOK2.out, ho4, fun _ => by rw [List.length_append]; simp; omega, by rw [List.length_append]; simp; omega, fun _ => e2, fun h => absurd hc2 h, b4⟩
              · exact ⟨p2, c2, ys ++ [X], by rw [if_neg hc2]; omega, r6, HOK2.out, ho4, fun h => absurd h hc2, by rw [List.length_append]; simp; omega, fun h => absurd h hc2, fun h => HNOo h, b4⟩
            have HN := Lib.hid hnew
            clear hown' hgrow ho3 b3 b4 k6 r6 ho4 hnew HOK HNO HR3 HOK2 HO
            go_wp2
            go_roundg gk
            case measure => omega
            case rel => exact HN.out
          · have hcb : (c == 0) = false := by rw [beq_eq_false_iff_ne]; exact hc
            have hcb2 : (c != 0) = true := by rw [bne_iff_ne]; exact hc
            have HV := Lib.hid (de_none (HBAD.out (H1.out hc)))
            clear hc H0 H1 HOUT HBAD ho hz
            go_wp2_with fail
            refine (qLeft_walk rb 146 b p c ok _ hr).mono ?_
            rintro e x1 ⟨rfl, kk, rfl⟩
            have b5 := Below_drewNg hbl kk
            go_wp2
            go_ret2
            rw [HV.out.1, HV.out.2]
            exact ⟨rfl, b5⟩
        · have hleft : ((b.length - p : Nat) : Int) ≤ 0 := by omega
          have hdp : b.drop p = [] := List.drop_eq_nil_of_le (by omega)
          by_cases hc : c = 0
          · have hgp := H0.out hc
            subst hc
            clear HY
            rw [hdp, gpl_nil] at hgp
            have hgp2 : gpl b = some (N :: ys) := by rw [hgp]; show some (N :: ys ++ []) = _; rw [List.append_nil]
            have hd := HOUT.out N ys hgp2
            have hI := fun w1 (h : RdZ w1 ao (ys.length + 2) (fz (a0 N :: a1 N :: ys))) => qis_walk ao (ys.length + 2) cap (fz (a0 N :: a1 N :: ys)) (by omega) w1 h
            have hzi := isZ_fz (a0 N :: a1 N :: ys)
            rw [hlen] at hzi
            rw [hzi] at hI
            rw [hlen] at hz
            cases hia : isArcs (a0 N :: a1 N :: ys)
            · rw [hia] at hI hd
              have HV := Lib.hid (de_none hd)
              have HI := Lib.hid hI
              have HZ := Lib.hid hz
              clear hd hI hgp hgp2 H0 H1 HOUT HBAD ho hz hzi hia
              go_wp2_with fail
              refine (qLeft_walk rb 146 b p 0 ok _ hr).mono ?_
              rintro e x1 ⟨rfl, kk, rfl⟩
              have b5 := Below_drewNg hbl kk
              go_wp2_with fail
              refine (HI.out _ (show RdZ (wr.drewN kk) ao (ys.length + 2) _ from HZ.out)).mono ?_
              rintro e x1 ⟨rfl, rfl⟩
              go_wp2
              go_ret2
              rw [HV.out.1, HV.out.2]
              exact ⟨rfl, b5⟩
            · have hP := fun w1 (h : RdZ w1 ao (ys.length + 2) (fz (a0 N :: a1 N :: ys))) => qputs_walk (a0 N :: a1 N :: ys) (isArcs_le hia) (by have := isArcs_len hia; omega) ao cap w1 h
              rw [hlen] at hP
              rw [hia, if_pos rfl] at hd
              rw [hia] at hI
              have HV := Lib.hid (de_some hd)
              have HI := Lib.hid hI
              have HZ := Lib.hid hz
              have HP := Lib.hid hP
              clear hd hI hgp hgp2 H0 H1 HOUT HBAD ho hz hzi hia hP
              go_wp2_with fail
              refine (qLeft_walk rb 146 b p 0 ok _ hr).mono ?_
              rintro e x1 ⟨rfl, kk, rfl⟩
              have b5 := Below_drewNg hbl kk
              go_wp2_with fail
              refine (HI.out _ (show RdZ (wr.drewN kk) ao (ys.length + 2) _ from HZ.out)).mono ?_
              rintro e x1 ⟨rfl, rfl⟩
              go_wp2_with fail
              refine (HP.out _ (show RdZ (wr.drewN kk) ao (ys.length + 2) _ from HZ.out)).mono ?_
              rintro e x2 ⟨rfl, d2⟩
              go_wp2
              go_ret2
              rw [HV.out.1, HV.out.2]
              exact ⟨rfl, b5.trans (d2.mono b5.size)⟩
          · have hcb : (c == 0) = false := by rw [beq_eq_false_iff_ne]; exact hc
            have hcb2 : (c != 0) = true := by rw [bne_iff_ne]; exact hc
            have HV := Lib.hid (de_none (HBAD.out (H1.out hc)))
            clear hc H0 H1 HOUT HBAD ho hz
            go_wp2_with fail
            refine (qLeft_walk rb 146 b p c ok _ hr).mono ?_
            rintro e x1 ⟨rfl, kk, rfl⟩
            have b5 := Below_drewNg hbl kk
            go_wp2
            go_ret2
            rw [HV.out.1, HV.out.2]
            exact ⟨rfl, b5⟩
end Go.Proofs.YtmdibafofdghgaaGreatDoor
/- gongref01.Grouped alone: for the stages whose rows have no more of layer 1. -/
namespace Go.Proofs.YtmdibafofdghgaaGreatDoor
open Go.ChangeShapes Go.WideShapes Go.ChangeAt Go.RowKit P1 K
set_option linter.unusedVariables false

def GpRel (w : World) (t : List UInt8) (vn vs : Value) (wr : World) : Prop :=
  ∃ (m f : Nat) (l : List UInt8), m < 128 ^ (f + 1) ∧ f ≤ 8 ∧ vn = .int .i64 m ∧ vs = .string (bs l) ∧ l.length + f ≤ 9 ∧ low f (m / 128) ++ l = t ∧ Below w.heap.size w wr

set_option maxRecDepth 100000 in
/-- The document's Grouped (layer 1), for the stages that only call it. -/
theorem grp_walk (n : Nat) (h1 : n ≤ 9223372036854775807) (w : World) :
    Calls Tryz.prog 107 #[.int .i64 n] w fun e w' => e = .returned (.string (bs (grp n))) ∧ Below w.heap.size w w' := by
  have hc1 := run_conv_one (P := Tryz.prog) 124 5 9 Tryz.underlying124 Tryz.underlying5 Tryz.underlying9
  go_enter Tryz.func107, Tryz.ntmps107
  go_wp2
  go_loopw [0, 3] (fun vn vs wr => GpRel w (grp n) vn vs wr) (fun vn vs wr => (intOf vn).toNat)
  case atStart =>
    exact ⟨n, 8, _, by omega, by omega, rfl, rfl, by simp, rfl, (Below.refl _ _).alloc (Nat.le_refl _) _⟩
  case round =>
    obtain ⟨m, f, l, hm, hf, rfl, rfl, hl, hg, hb⟩ := hrel
    have Hg := Lib.hid hg; have Hm := Lib.hid hm; clear hg
    have hmx : m ≤ 9223372036854775807 := by
      have : (128 : Nat) ^ (f + 1) ≤ 128 ^ 9 := Nat.pow_le_pow_right (by omega) (by omega)
      omega
    clear hm
    by_cases h0 : 128 ≤ m
    · go_wp2
      go_roundw
      case measure => simp [intOf]; omega
      case rel =>
        obtain ⟨g, rfl⟩ : ∃ g, f = g + 1 := ⟨f - 1, by have := Hm.out; rcases f with _ | f <;> simp at this ⊢; omega⟩
        have hm2 : m / 128 < 128 ^ (g + 1) := by have := Hm.out; rw [Nat.pow_succ] at this; omega
        refine ⟨m / 128, g, b8 (m / 128 % 128 + 128) :: l, hm2, by omega, by simp, ?_, by simp; omega, ?_, hb.alloc (by have := hb.size; omega) _⟩
        · simp
        · rw [← Hg.out, low_step g (m / 128) (by omega), List.append_assoc]; rfl
    · go_wp2
      go_ret
      refine ⟨?_, hb⟩
      rw [← Hg.out, show m / 128 = 0 by omega, low_zero]; rfl
end Go.Proofs.YtmdibafofdghgaaGreatDoor
/- The document's own Encode, walked. -/
namespace Go.Proofs.YtmdibafofdghgaaGreatDoor
open Go.ChangeShapes Go.WideShapes Go.ChangeAt Go.RowKit K O6
set_option linter.unusedVariables false

def enS (s : List UInt8) : List UInt8 := if (arcs s).isSome then eb (arL s) else []
def EnRel (l : List Nat) (w : World) (g : Nat) (v6 v7 : Value) (wr : World) : Prop :=
  ∃ (i : Nat) (o : List UInt8), i + g = l.length ∧ 2 ≤ i ∧ v7 = .int .i64 (i : Nat) ∧ v6 = .string (bs o) ∧ o = ebt l i ∧ o.length ≤ 9 * i ∧ Below w.heap.size w wr
set_option maxRecDepth 100000 in
set_option maxHeartbeats 600000 in
theorem qencode_walk (s : List UInt8) (hs : s.length ≤ 140737488351232) (w : World) :
    Calls Tryz.prog 82 #[.string (bs s)] w fun e w' => e = .returned (.tuple #[.string (bs (enS s)), .int .i64 (arE s : Nat)]) ∧ Below w.heap.size w w' := by
  have HA := Lib.hid (qarcs_walk s hs w)
  unfold ArPost at HA
  cases hx : arcs s with
  | none =>
    have h1 := ar_none hx
    have h2 : enS s = [] := by unfold enS; rw [hx]; rfl
    rw [h1.1, h1.2] at HA
    rw [h1.1, h2]
    clear h1 h2 hx
    go_enter Tryz.func82, Tryz.ntmps82
    go_wp2_with fail
    refine HA.out.mono ?_
    rintro e w1 ⟨va, rfl, hoa, hb1⟩
    go_wp2
    go_ret2
    exact ⟨rfl, hb1⟩
  | some l =>
    have h1 := ar_some hx
    have h2 : enS s = eb l := by unfold enS; rw [hx, h1.2]; rfl
    rw [h1.1, h1.2] at HA
    rw [h1.1, h2]
    have hz := ((arcs_iff s l).1 hx).1
    have hlen := isArcs_len hz
    have HLE := Lib.hid (isArcs_le hz)
    clear h1 h2 hx hz
    go_enter Tryz.func82, Tryz.ntmps82
    go_wp2_with fail
    refine HA.out.mono ?_
    rintro e w1 ⟨va, rfl, hoa, hb1⟩
    obtain ⟨ao, ca, rfl, hra⟩ := RdZ.own hoa
    have HR := Lib.hid hra
    rcases hra with h0 | ⟨bk, off, rfl, hbk, hc⟩
    · omega
    · have c0 := hc 0 (by omega)
      have c1 := hc 1 (by omega)
      have hx0 : l.getD 0 0 ≤ 4294967295 := HLE.out _ (by rw [List.getD, List.getElem?_eq_getElem (by omega : 0 < l.length)]; exact List.getElem_mem _)
      have hx1 : l.getD 1 0 ≤ 4294967295 := HLE.out _ (by rw [List.getD, List.getElem?_eq_getElem (by omega : 1 < l.length)]; exact List.getElem_mem _)
      have H2 := Lib.hid (ebt_two l)
      unfold fz at c0 c1
      rw [Nat.add_zero] at c0
      have hgl := P1.grp_length (40 * l.getD 0 0 + l.getD 1 0)
      have HG := Lib.hid (fun w2 => grp_walk (40 * l.getD 0 0 + l.getD 1 0) (by omega) w2)
      clear hoa hc HA
      generalize l.getD 0 0 = x at *
      generalize l.getD 1 0 = y at *
      have hcx : ((40 * x + y : Nat) : Int) = 40 * (x : Int) + (y : Int) := by omega
      rw [hcx] at HG
      have kw0 : IntKind.i64.wrap (40 * (x : Int)) = 40 * (x : Int) := IntWalk.i64_in _ (by omega)
      have kw1 : IntKind.i64.wrap (40 * (x : Int) + (y : Int)) = 40 * (x : Int) + (y : Int) := IntWalk.i64_in _ (by omega)
      clear hcx
      generalize P1.grp (40 * x + y) = o0 at *
      have hL0 : (0 : Int) < ((l.length : Nat) : Int) := by omega
      have hL1 : (1 : Int) < ((l.length : Nat) : Int) := by omega
      have hL2 : (1 : Int) ≤ ((l.length : Nat) : Int) := by omega
      have hN0 : 0 < l.length := by omega
      have hN1 : 1 < l.length := by omega
      go_wp2_with fail
      go_region_held3 (fun w' => w'.cell? ⟨bk, off, none⟩ = some (.int .i64 (x : Nat)) ∧ w'.cell? ⟨bk, off + 1, none⟩ = some (.int .i64 (y : Nat))) (first | exact ⟨c0, c1⟩ | exact z1)
        (first | (go_at_call 107; refine (HG.out _).mono ?_; rintro e x1 ⟨rfl, k1⟩; have z1 := And.intro ((k1.cell (p := ⟨bk, off, none⟩) hbk).trans c0) ((k1.cell (p := ⟨bk, off + 1, none⟩) hbk).trans c1)))
      have k2 : Below w1.heap.size w1 x1 := ⟨k1.os, k1.tape, k1.output, k1.size, k1.block⟩
      have HR2 := Lib.hid (HR.out.below k2)
      have hb2 := hb1.trans (k2.mono hb1.size)
      have HAll := Lib.hid (ebt_all l)
      clear kw0 kw1 k1 k2 z1 c0 c1 HR HG hb1 hbk
      go_wp2
      go_loopg [6, 7] (l.length - 2) (fun g v6 v7 wr => EnRel l x1 g v6 v7 wr)
      case atStart => exact ⟨2, o0, by omega, by omega, rfl, rfl, H2.out.symm, by omega, Below.refl _ _⟩
      case round =>
        obtain ⟨i, o, hig, hi2, rfl, rfl, ho, hol, hb⟩ := hrel
        cases gk with
        | zero =>
          obtain rfl : i = l.length := by omega
          have HE := Lib.hid (ho.trans HAll.out)
          clear hig ho
          go_wp2
          go_ret2
          rw [← HE.out]
          exact ⟨rfl, hb2.trans (hb.mono hb2.size)⟩
        | succ g =>
          have hil : i < l.length := by omega
          rcases (HR2.out).below hb with h0 | ⟨bk2, off2, he, hbk, hc⟩
          · omega
          · cases he
            have hcell := hc i hil
            have hle : l.getD i 0 ≤ 4294967295 := HLE.out _ (by
              rw [List.getD, List.getElem?_eq_getElem hil]; exact List.getElem_mem hil)
            have HN := Lib.hid (fun w1 => grp_walk (l.getD i 0) (by omega) w1)
            have hnl := P1.grp_length (l.getD i 0)
            have HS := Lib.hid (show o ++ P1.grp (l.getD i 0) = ebt l (i + 1) by rw [ebt_snoc l i hil hi2, ← ho])
            unfold fz at hcell
            clear hc HR2 ho
            generalize l.getD i 0 = c at *
            generalize P1.grp c = X at *
            have hnew : (o ++ X).length ≤ 9 * (i + 1) := by rw [List.length_append]; omega
            go_wp2_with fail
            refine (HN.out _).mono ?_
            rintro e w3 ⟨rfl, d⟩
            have hb3 := hb.trans (d.mono hb.size)
            clear d hcell
            go_wp2
            go_roundg g
            case measure => omega
            case rel => exact ⟨i + 1, o ++ X, by omega, by omega, by simp, by simp, HS.out, hnew, hb3⟩
end Go.Proofs.YtmdibafofdghgaaGreatDoor
