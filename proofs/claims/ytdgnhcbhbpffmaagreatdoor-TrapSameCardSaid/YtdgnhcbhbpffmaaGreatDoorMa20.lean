/- Texts on the program and on the document, joined: OidY, OidF, OidN, PduR, Sprd. -/
import Derived.Test.YtdgnhcbhbpffmaaGreatDoorMa19
import Derived.Test.YtdgnhcbhbpffmaaGreatDoorMa11
import Derived.Test.YtdgnhcbhbpffmaaGreatDoorMa18
import Derived.Laws.OwnMore
import Derived.Laws.AppendOwn
/- oid's Decode, walked. -/
namespace Go.Proofs.YtdgnhcbhbpffmaaGreatDoor
open Go.ChangeShapes Go.WideShapes Go.ChangeAt Go.RowKit K O6
set_option linter.unusedVariables false

theorem deA_nil : deA [] = none := by unfold deA; rw [if_pos (.inl rfl)]
theorem dp_first (b : List UInt8) :
    ((P1.rdG b 0 0 4294967295).1 ≤ 4294967295) ∧ ((P1.rdG b 0 0 4294967295).2.2 = 0 → b ≠ [] ∧ gpl b = ahO [(P1.rdG b 0 0 4294967295).1] (gpl (b.drop (P1.rdG b 0 0 4294967295).2.1))) ∧ (¬ (P1.rdG b 0 0 4294967295).2.2 = 0 → deA b = none) := by
  by_cases hn : b = []
  · subst hn
    have h : (P1.rdG [] 0 0 4294967295) = (0, 0, 10) := by decide
    rw [h]
    exact ⟨Nat.zero_le _, fun h => absurd h (by decide), fun _ => deA_nil⟩
  · by_cases hc : (P1.rgo (b.drop 0) 4294967295 9 0 0).2.2 = 0
    · rw [P1.rdG_yes b 0 4294967295 hc]
      rw [List.drop_zero] at hc ⊢
      refine ⟨?_, fun _ => ⟨hn, ?_⟩, fun h => absurd rfl h⟩
      · have := rgo_most b 4294967295 9 0 0 hc
        show (P1.rgo b 4294967295 9 0 0).1 ≤ 4294967295
        omega
      · have h := ahO_more [] hn hc
        rw [Nat.zero_add]
        cases hg : gpl b with
        | none => rw [hg] at h; exact h
        | some r => rw [hg] at h; exact h
    · rw [P1.rdG_no b 0 4294967295 hc]
      refine ⟨Nat.zero_le _, fun h => absurd h hc, fun _ => ?_⟩
      rw [List.drop_zero] at hc
      exact deA_bad (by rw [gpl_step hn, if_neg hc])
theorem dp_step {b : List UInt8} {p : Nat} {c : Int} {N : Nat} {ys : List Nat} (hp : p < b.length) (h0 : c = 0 → gpl b = ahO (N :: ys) (gpl (b.drop p))) (h1 : ¬ c = 0 → deA b = none) :
    ((P1.rdG b p c 4294967295).2.2 = 0 → gpl b = ahO (N :: (ys ++ [(P1.rdG b p c 4294967295).1])) (gpl (b.drop (P1.rdG b p c 4294967295).2.1))) ∧ (¬ (P1.rdG b p c 4294967295).2.2 = 0 → deA b = none) := by
  by_cases hc : c = 0
  · subst hc
    obtain ⟨_, hok, hno⟩ := ahO_next (N :: ys) hp
    rw [← h0 rfl] at hok hno
    exact ⟨fun h => (hok h).2, fun h => deA_bad (hno h)⟩
  · rw [P1.rdG_bad b p c _ hc]
    exact ⟨fun h => absurd h hc, fun _ => h1 hc⟩
theorem dp_long {b : List UInt8} {p : Nat} {N : Nat} {ys : List Nat} (hp : p < b.length) (hy : ys.length = 126) (h0 : gpl b = ahO (N :: ys) (gpl (b.drop p))) : deA b = none := by
  cases hg : gpl (b.drop p) with
  | none => rw [hg] at h0; exact deA_bad h0
  | some zs =>
    rw [hg] at h0
    have h2 : gpl b = some (N :: (ys ++ zs)) := h0
    have hz := gpl_inv _ _ zs (Nat.le_refl _) hg
    have hzl : 1 ≤ zs.length := by
      rcases Nat.eq_zero_or_pos zs.length with h | h
      · have : zs = [] := List.length_eq_zero_iff.1 h
        rw [this] at hz
        have := congrArg List.length hz.1
        rw [List.length_drop] at this
        simp at this; omega
      · exact h
    by_cases hb : 640 < b.length
    · unfold deA; rw [if_pos (.inr hb)]
    · rw [deA_out (fun h => by rw [h] at hp; simp at hp) (by omega) h2, if_neg]
      intro h
      have := isArcs_len h
      simp at this; omega
theorem dp_end {b : List UInt8} {p : Nat} {N : Nat} {ys : List Nat} (hp : b.length ≤ p) (hb : b ≠ []) (hy : ys.length ≤ 126) (h0 : gpl b = ahO (N :: ys) (gpl (b.drop p))) :
    deA b = some (a0 N :: a1 N :: ys) ∧ ∀ a ∈ a0 N :: a1 N :: ys, a ≤ 4294967295 := by
  rw [List.drop_eq_nil_of_le hp, gpl_nil] at h0
  have h2 : gpl b = some (N :: ys) := by
    rw [h0]; show some (N :: ys ++ []) = _; rw [List.append_nil]
  obtain ⟨h3, h4, _⟩ := gpl_inv _ _ _ (Nat.le_refl _) h2
  have h5 := flat_small (N :: ys) h4
  rw [h3, List.length_cons] at h5
  have hN := h4 N (by simp)
  have hle : ∀ a ∈ a0 N :: a1 N :: ys, a ≤ 4294967295 := by
    intro a ha
    rcases List.mem_cons.1 ha with h | h
    · rw [h]; unfold a0; omega
    · rcases List.mem_cons.1 h with h | h
      · rw [h]; unfold a1 a0; omega
      · exact h4 a (List.mem_cons_of_mem _ h)
  have hia : isArcs (a0 N :: a1 N :: ys) = true := by
    unfold isArcs
    simp only [Bool.and_eq_true, decide_eq_true_eq, Bool.or_eq_true, List.all_eq_true, beq_iff_eq]
    refine ⟨by simp, by simp; omega, hle, ?_⟩
    show (a0 N < 2 ∧ a1 N ≤ 39) ∨ (a0 N = 2 ∧ a1 N ≤ 4294967215)
    unfold a1 a0; omega
  exact ⟨by rw [deA_out hb (by omega) h2, if_pos hia], hle⟩
/-- The reader at p, the list behind block rb. -/
def DpRel (b : List UInt8) (w : World) (rb n g : Nat) (v : Value) (wr : World) : Prop :=
  ∃ (p : Nat) (c : Int) (ys : List Nat), ys.length + g = 126 ∧ Rdr wr rb 140 b p c ∧ P1.Ok b p c ∧ OwnI wr (rb + 1) 3 v (a0 n :: a1 n :: ys) ∧
    (c = 0 → b ≠ [] ∧ gpl b = ahO (n :: ys) (gpl (b.drop p))) ∧ (¬ c = 0 → deA b = none) ∧ Below w.heap.size w wr
set_option maxRecDepth 100000 in
set_option maxHeartbeats 2000000 in
theorem decode_walk (b : List UInt8) (hb : b.length ≤ 140737488351232) (w : World) (T : Tabs w) :
    Calls Tryz.prog 115 #[.string (bs b)] w fun e w' => e = .returned (.tuple #[.string (bs (deS b)), .int .i64 (deE b : Nat)]) ∧ Below w.heap.size w w' := by
  obtain ⟨i0, hi, hz0, hz1, hz2⟩ := info_of int_info6
  have HT := Lib.hid T
  clear T
  go_enter Tryz.func115, Tryz.ntmps115
  go_wp2_with fail
  refine (RG.read_walk b w).mono ?_
  rintro e w0 ⟨rfl, k0, hsz0, hr0⟩
  have ok0 : P1.Ok b 0 0 := ⟨hb, Nat.zero_le _, by omega, by omega⟩
  have b0 : Below w.heap.size w w0 := k0.below (Nat.le_refl _) (by simp)
  have hlt0 : w.heap.size < w0.heap.size := by omega
  clear k0 hsz0
  go_wp2_with fail
  refine (RG.rGroups_walk w.heap.size 140 b 0 0 4294967295 ok0 (by omega) (by omega) w0 hr0).mono ?_
  rintro e w1 ⟨rfl, k1, r1⟩
  obtain ⟨ok1, hn1, hp1⟩ := P1.rdG_ok b 0 0 4294967295 ok0
  have hsem := dp_first b
  generalize P1.rdG b 0 0 4294967295 = q at *
  obtain ⟨N, p1, c1⟩ := q
  simp only [] at r1 ok1 hn1 hp1 hsem
  obtain ⟨hN, hs0, hs1⟩ := hsem
  have b1 : Below w.heap.size w w1 := b0.trans (k1.below (by omega) (by simp))
  have hlt1 : w.heap.size < w1.heap.size := Nat.lt_of_lt_of_le hlt0 k1.size
  clear hr0 ok0 b0 k1 hlt0
  generalize hgg : w.heap.size = rb at *
  have HS0 := Lib.hid hs0
  have HS1 := Lib.hid hs1
  clear hs0 hs1
  have hN0 : (0 : Int) ≤ (N : Nat) := by omega
  have hq0 : (0 : Int) ≤ (N : Nat) / 40 := by omega
  have hs2 : rb + 1 ≤ w1.heap.size := by omega
  have r2 : Rdr (w1.alloc (.cells #[.int .i64 (a0 N : Nat), .int .i64 (a1 N : Nat)] 3)) rb 140 b p1 c1 := (Below.heap_alloc _ _ _ hlt1).trans r1
  have hst : DpRel b w rb N 126 (.slice (some ⟨w1.heap.size, 0, none⟩) 2 2) (w1.alloc (.cells #[.int .i64 (a0 N : Nat), .int .i64 (a1 N : Nat)] 3)) :=
    ⟨p1, c1, [], rfl, r2, ok1, ownI_two w1 (rb + 1) 3 (a0 N) (a1 N) hs2, HS0.out, HS1.out, by rw [hgg]; exact b1.alloc (by omega) _⟩
  have HST := Lib.hid hst
  clear hst r2 r1 ok1 HS0 HS1 b1
  have HEQ := Lib.hid (show ((a0 N : Nat) : Int) = min ((N : Int) / 40) 2 ∧ ((a1 N : Nat) : Int) = (N : Int) - min ((N : Int) / 40) 2 * 40 by unfold a1 a0; omega)
  have z1 : IntKind.i64.wrap (min ((N : Int) / 40) 2 * 40) = min ((N : Int) / 40) 2 * 40 := IntWalk.i64_in _ (by omega)
  have z2 : IntKind.i64.wrap ((N : Int) - min ((N : Int) / 40) 2 * 40) = (N : Int) - min ((N : Int) / 40) 2 * 40 := IntWalk.i64_in _ (by omega)
  have HW := Lib.hid (fun cs (h : ∀ a ∈ cs, a ≤ 4294967295) (hn : cs.length ≤ 1000) ao cap w1 (hr : RdZ w1 ao cs.length (fz cs)) (t : Tabs w1) => write_walk cs h hn ao cap w1 hr t)
  go_wp2_with fail
  go_loopg [7] 126 (fun g v wr => DpRel b w rb N g v wr)
  case atStart =>
    have h := HST.out
    rw [HEQ.out.1, HEQ.out.2] at h
    exact h
  case round =>
    clear HST HEQ hq0 z1 z2
    obtain ⟨p, c, ys, hg, hr, ok, ho, h0, h1, hbl⟩ := hrel
    have hpb := ok.at_
    obtain ⟨q0, q1, q2, _, f2⟩ := hr.cells
    obtain ⟨ao, cap, rfl, hz⟩ := RdZ.own ho
    have hlen : (a0 N :: a1 N :: ys).length = ys.length + 2 := rfl
    by_cases hpl : p < b.length
    · have hleft : (0 : Int) < ((b.length - p : Nat) : Int) := by omega
      cases gk with
      | succ gk =>
        have hl128 : ((ys.length : Nat) : Int) + 2 < 128 := by omega
        have hst2 := dp_step hpl (fun h => (h0 h).2) h1
        have HBN := Lib.hid (show b ≠ [] by intro h; rw [h] at hpl; simp at hpl)
        obtain ⟨ok2, _, hpp2⟩ := P1.rdG_ok b p c 4294967295 ok
        clear h0 h1
        rw [hlen]
        go_wp2_with fail
        refine (RG.left_walk rb 140 b p c ok _ hr).mono ?_
        rintro e x1 ⟨rfl, kk, rfl⟩
        go_wp2_with fail
        refine Calls.mono (RG.rGroups_walk rb 140 b p c 4294967295 ok (by omega) (by omega) _ (show Rdr (wr.drewN kk) rb 140 b p c from hr)) ?_
        rintro e x2 ⟨rfl, k2, r3⟩
        have ho3 : OwnI x2 (rb + 1) 3 (.slice ao (ys.length + 2) cap) (a0 N :: a1 N :: ys) := ownI_kp ho k2.ofDrewN
        have b3 : Below w.heap.size w x2 := hbl.trans (k2.ofDrewN.below hbl.size (by rw [hgg]; simp))
        have hrs : rb + 1 ≤ x2.heap.size := by have := lt_of_block r3; omega
        generalize P1.rdG b p c 4294967295 = q at *
        obtain ⟨X, p2, c2⟩ := q
        simp only [] at hst2 ok2 r3 hpp2
        have HST2 := Lib.hid hst2; have HR3 := Lib.hid r3; have HOK2 := Lib.hid ok2; have HO := Lib.hid ho3.1
        have hys : ys.length ≤ 126 := by omega
        clear hst2 r3 ok2 ok ho hr q0 q1 q2 f2 hbl k2 hz
        go_wp2_with (at_builtin; refine wpList_append_own _ rfl _ _ 134 rfl (rb + 1) 3 i0 (.int .i64 0) 1 8 Tryz.underlying134 hi hz0 hz1 hz2 rfl (by decide) _ _ _ rfl (World.ownsRow.alloc ho3 _) ⟨x2.heap.size, 0, none⟩ 1 1 [.int .i64 (X : Nat)] rfl rfl ?c1 ?c2 ?c3 ?c4 ?c5 ?_)
        case c1 =>
          intro j u hj
          match j, hj with
          | 0, hj => simp at hj; subst hj; simp [Addr.add]
        case c2 => intro u hu; simp at hu; subst hu; rfl
        case c3 => unfold maxLen; rw [hlen]; omega
        case c4 => rw [hlen]; omega
        case c5 => simp; omega
        intro v' w4 hown' hgrow _
        have b4 := (b3.alloc (by have := b3.size; omega) (.cells #[.int .i64 (X : Nat)] 3)).grown hgrow (by have := b3.size; simp; omega) (fun k hk => by have := (World.ownsRow.lt ho3 k hk).1; omega)
        have k6 := ((Below.refl (rb + 1) x2).alloc (by omega) (.cells #[.int .i64 (X : Nat)] 3)).grown hgrow (by simp; omega) (fun k hk => (World.ownsRow.lt ho3 k hk).1)
        have r6 : Rdr w4 rb 140 b p2 c2 := (k6.block rb (Nat.lt_succ_self rb)).trans HR3.out
        have ho4 : OwnI w4 (rb + 1) 3 v' (a0 N :: a1 N :: ys ++ [X]) := OwnI.put hown'
        have HN := Lib.hid (show DpRel b w rb N gk v' w4 from ⟨p2, c2, ys ++ [X], by rw [List.length_append, List.length_singleton]; omega, r6, HOK2.out, ho4, fun h => ⟨HBN.out, HST2.out.1 h⟩, HST2.out.2, b4⟩)
        clear hown' hgrow ho3 b3 b4 k6 r6 ho4 HR3 HOK2 HO HST2 HBN
        go_wp2
        go_roundg gk
        case measure => omega
        case rel => exact HN.out
      | zero =>
        have hy : ys.length = 126 := by omega
        have hl128 : (128 : Int) ≤ ((ys.length : Nat) : Int) + 2 := by omega
        have hde : deA b = none := by
          by_cases hc : c = 0
          · exact dp_long hpl hy (h0 hc).2
          · exact h1 hc
        have HV := Lib.hid (de_none hde)
        have hD : (P1.rdD b p c != 0) = true := by
          rw [bne_iff_ne]
          unfold P1.rdD
          by_cases hc : c = 0
          · rw [if_neg (by simp [hc]), if_pos hpl]; decide
          · rw [if_pos hc]; exact hc
        have HD := Lib.hid (fun w2 (h : Rdr w2 rb 140 b p c) => RG.rDone_walk rb 140 b p c ok w2 h)
        generalize P1.rdD b p c = D at *
        clear h0 h1 hde ho hz
        rw [hlen]
        go_wp2_with fail
        refine (RG.left_walk rb 140 b p c ok _ hr).mono ?_
        rintro e x1 ⟨rfl, kk, rfl⟩
        go_wp2_with fail
        refine (HD.out _ (show Rdr (wr.drewN kk) rb 140 b p c from hr)).mono ?_
        rintro e x2 ⟨rfl, k2, rfl⟩
        have b5 := Below_drewNg hbl (kk + k2)
        go_wp2
        go_ret2
        rw [HV.out.1, HV.out.2]
        exact ⟨rfl, b5⟩
    · have hleft : ((b.length - p : Nat) : Int) ≤ 0 := by omega
      by_cases hc : c = 0
      · have hd0 : P1.rdD b p c = 0 := by
          unfold P1.rdD
          rw [if_neg (by simp [hc]), if_neg hpl]
        obtain ⟨hde, hle⟩ := dp_end (by omega) (h0 hc).1 (by omega) (h0 hc).2
        have HV := Lib.hid (de_some hde)
        have HD := Lib.hid (fun w2 (h : Rdr w2 rb 140 b p c) => RG.rDone_walk rb 140 b p c ok w2 h)
        rw [hd0] at HD
        have hWW := fun w1 (h : RdZ w1 ao (a0 N :: a1 N :: ys).length (fz (a0 N :: a1 N :: ys))) (t : Tabs w1) => HW.out (a0 N :: a1 N :: ys) hle (by rw [hlen]; omega) ao cap w1 h t
        rw [hlen] at hWW hz
        have HWW := Lib.hid hWW
        have HZ := Lib.hid hz
        clear h0 h1 hde ho hz hle hd0 hWW HW
        rw [hlen]
        go_wp2_with fail
        refine (RG.left_walk rb 140 b p c ok _ hr).mono ?_
        rintro e x1 ⟨rfl, kk, rfl⟩
        go_wp2_with fail
        refine (HD.out _ (show Rdr (wr.drewN kk) rb 140 b p c from hr)).mono ?_
        rintro e x2 ⟨rfl, k2, rfl⟩
        have b5 := Below_drewNg (Below_drewNg hbl kk) k2
        have z5 : RdZ ((wr.drewN kk).drewN k2) ao (ys.length + 2) _ := HZ.out
        generalize (wr.drewN kk).drewN k2 = w5 at *
        go_wp2_with fail
        refine (HWW.out w5 z5 (HT.out.below b5)).mono ?_
        rintro e w6 ⟨rfl, d6⟩
        go_wp2
        go_ret2
        rw [HV.out.1, HV.out.2]
        exact ⟨rfl, b5.trans (d6.mono b5.size)⟩
      · have hD : (P1.rdD b p c != 0) = true := by
          rw [bne_iff_ne]
          unfold P1.rdD
          rw [if_pos hc]; exact hc
        have HV := Lib.hid (de_none (h1 hc))
        have HD := Lib.hid (fun w2 (h : Rdr w2 rb 140 b p c) => RG.rDone_walk rb 140 b p c ok w2 h)
        generalize P1.rdD b p c = D at *
        clear h0 h1 hc ho hz
        rw [hlen]
        go_wp2_with fail
        refine (RG.left_walk rb 140 b p c ok _ hr).mono ?_
        rintro e x1 ⟨rfl, kk, rfl⟩
        go_wp2_with fail
        refine (HD.out _ (show Rdr (wr.drewN kk) rb 140 b p c from hr)).mono ?_
        rintro e x2 ⟨rfl, k2, rfl⟩
        have b5 := Below_drewNg hbl (kk + k2)
        go_wp2
        go_ret2
        rw [HV.out.1, HV.out.2]
        exact ⟨rfl, b5⟩
end Go.Proofs.YtdgnhcbhbpffmaaGreatDoor
/- The document's own Rest, walked. -/
namespace Go.Proofs.YtdgnhcbhbpffmaaGreatDoor
open Go.ChangeShapes Go.WideShapes Go.ChangeAt Go.RowKit K O6
set_option linter.unusedVariables false

theorem OwnI.cap {w : World} {B : Nat} {T : TypeId} {ao : Option Addr} {n cap : Nat} {cs : List Nat} (h : OwnI w B T (.slice ao n cap) cs) : n ≤ cap := by
  rcases h.2 with ⟨hv, h0⟩ | ⟨g, cap', cur, hv, hB, hh, hle, hm, hs, ht⟩
  · cases hv; exact Nat.le_refl _
  · cases hv; omega
def rsS (r s : List UInt8) : List UInt8 := if wi r s then put ((arL s).drop (arL r).length) else []
def rsE (r s : List UInt8) : Nat := if wi r s then 0 else 60
end Go.Proofs.YtdgnhcbhbpffmaaGreatDoor
/- oid's both, cut, behind, Within, Rest, walked. -/
namespace Go.Proofs.YtdgnhcbhbpffmaaGreatDoor
open Go.ChangeShapes Go.WideShapes Go.ChangeAt Go.RowKit K O6
set_option linter.unusedVariables false

/-- What both tells. -/
def BoPost (a b : List UInt8) (w : World) (e : Ending) (w' : World) : Prop :=
  ∃ va vb, e = .returned (.tuple #[va, vb, .bool ((arcs a).isSome && (arcs b).isSome)]) ∧ Below w.heap.size w w' ∧ (∃ o n c, va = .slice o n c) ∧ (∃ o n c, vb = .slice o n c) ∧
    (((arcs a).isSome && (arcs b).isSome) = true → OwnI w' w.heap.size 3 va (arL a) ∧ OwnI w' w.heap.size 3 vb (arL b))
theorem own_shape {w : World} {B : Nat} {T : TypeId} {v : Value} {cs : List Nat} (h : OwnI w B T v cs) : ∃ o n c, v = .slice o n c := by
  obtain ⟨ao, cap, hv, _⟩ := h.form
  exact ⟨_, _, _, hv⟩
/-- What behind tells. -/
def BhPost (r s : List UInt8) (w : World) (e : Ending) (w' : World) : Prop :=
  ∃ o n c, e = .returned (.tuple #[.slice o n c, .bool (wi r s)]) ∧ Below w.heap.size w w' ∧ (wi r s = true → n = ((arL s).drop (arL r).length).length ∧ RdZ w' o n (fz ((arL s).drop (arL r).length)))
theorem ints_take (a b : List Nat) (h : a.length ≤ b.length) : ((b.map (fun x : Nat => (x : Int))).take a.length == (a.map (fun x : Nat => (x : Int))).take a.length) = O6.within a b := by
  rw [List.take_of_length_le (l := a.map (fun x : Nat => (x : Int))) (by simp)]
  rw [Bool.eq_iff_iff, beq_iff_eq, O6.within_iff]
  constructor
  · intro e
    rw [← List.map_take] at e
    have h2 : b.take a.length = a := by
      have h3 := congrArg (List.map Int.toNat) e
      rw [List.map_map, List.map_map] at h3
      have h4 : (Int.toNat ∘ fun x : Nat => (x : Int)) = id := by funext x; simp
      rw [h4, List.map_id, List.map_id] at h3
      exact h3
    refine ⟨b.drop a.length, ?_⟩
    have h5 := List.take_append_drop a.length b
    rw [h2] at h5
    exact h5.symm
  · rintro ⟨t, rfl⟩
    rw [List.map_append, List.take_left' (by simp)]
end Go.Proofs.YtdgnhcbhbpffmaaGreatDoor
/- Find, the document's and the program's, walked. -/
namespace Go.Proofs.YtdgnhcbhbpffmaaGreatDoor
open Go.ChangeShapes Go.WideShapes Go.ChangeAt Go.RowKit K P1 B5
open D8 (Bd Un lst)
set_option linter.unusedVariables false

def fnd (r : List UInt8) (xs : List Bd) : List Bd := xs.filter fun x => wi r x.o
theorem fnd_take {r : List UInt8} {xs : List Bd} {i : Nat} (hi : i < xs.length) : fnd r (xs.take (i + 1)) = if wi r (xs.getD i nob).o = true then fnd r (xs.take i) ++ [xs.getD i nob] else fnd r (xs.take i) := by
  unfold fnd
  rw [List.take_succ_eq_append_getElem hi, List.filter_append, List.getD_eq_getElem?_getD, List.getElem?_eq_getElem hi]
  show _ ++ List.filter _ [xs[i]] = if wi r (xs[i]).o = true then _ ++ [xs[i]] else _
  cases h : wi r (xs[i]).o
  · rw [if_neg (by simp)]
    show _ ++ (match wi r (xs[i]).o with | true => [xs[i]] | false => []) = _
    rw [h, List.append_nil]
  · rw [if_pos rfl]
    show _ ++ (match wi r (xs[i]).o with | true => [xs[i]] | false => []) = _
    rw [h]
theorem fnd_len (r : List UInt8) (xs : List Bd) : (fnd r xs).length ≤ xs.length := List.length_filter_le _ _
theorem bind_info : (Tryz.prog.info? 48).map (fun i => (i.zero, i.size, i.bytes)) = some (some (.agg #[.string .empty, .int .i64 0, .int .i64 0, .string .empty]), 4, 48) := by kernel_rfl
theorem bind_parts : ∃ i, Tryz.prog.info? 48 = some i ∧ i.zero = some (.agg #[.string .empty, .int .i64 0, .int .i64 0, .string .empty]) ∧ i.size = 4 ∧ i.bytes = 48 := by
  obtain ⟨i, h1, h2⟩ := Option.map_eq_some_iff.1 bind_info
  simp only [Prod.mk.injEq] at h2
  exact ⟨i, h1, h2.1, h2.2.1, h2.2.2⟩
theorem one_cell (x : Bd) : ∀ u ∈ cellsB x, u.oneCell' = true := by
  intro u hu
  simp [cellsB] at hu
  rcases hu with rfl | rfl | rfl | rfl <;> rfl
theorem Bq.each {w : World} {b : Nat} {x : Bd} (h : Bq w b x) : ∀ j u, (cellsB x)[j]? = some u → w.cell? ((⟨b, 0, none⟩ : Addr).add j) = some u := by
  obtain ⟨c0, c1, c2, c3⟩ := h.cells
  intro j u hj
  match j, hj with
  | 0, hj => simp [cellsB] at hj; subst hj; exact c0
  | 1, hj => simp [cellsB] at hj; subst hj; exact c1
  | 2, hj => simp [cellsB] at hj; subst hj; exact c2
  | 3, hj => simp [cellsB] at hj; subst hj; exact c3
  | j + 4, hj => simp [cellsB] at hj
def FdRel (r : List UInt8) (xs : List Bd) (w : World) (g : Nat) (vo vi : Value) (wr : World) : Prop :=
  ∃ i : Nat, i + g = xs.length ∧ vi = .int .i64 (i : Nat) ∧ OwnB wr w.heap.size 48 vo (fnd r (xs.take i)) ∧ Below w.heap.size w wr
end Go.Proofs.YtdgnhcbhbpffmaaGreatDoor
/- Lists of binds: beginnings, one behind another by the builtin append. -/
namespace Go.Proofs.YtdgnhcbhbpffmaaGreatDoor
open Go.ChangeShapes Go.WideShapes Go.ChangeAt Go.RowKit K P1 B5
open D8 (Bd)
set_option linter.unusedVariables false

theorem RdB.pre {w : World} {ao : Option Addr} {xs ys : List Bd} (h : RdB w ao (xs ++ ys)) : RdB w ao xs := by
  by_cases h0 : xs.length = 0
  · exact .inl h0
  rcases h with h | ⟨b, off, ha, hb, hc⟩
  · rw [List.length_append] at h; omega
  · refine .inr ⟨b, off, ha, hb, fun i hi => ?_⟩
    have := hc i (by rw [List.length_append]; omega)
    rw [List.getD_eq_getElem?_getD, List.getElem?_append_left hi, ← List.getD_eq_getElem?_getD] at this
    exact this
theorem RdB.last {w : World} {g : Nat} {xs : List Bd} {x : Bd} (h : RdB w (some ⟨g, 0, none⟩) (xs ++ [x])) : w.cell? ⟨g, xs.length * 4, none⟩ = some (.string (bs x.o)) := by
  rcases h with h | ⟨b, off, ha, hb, hc⟩
  · simp at h
  · injection ha with ha
    injection ha with h1 h2 _
    subst h1 h2
    have := (hc xs.length (by simp)).1
    have hg : (xs ++ [x]).getD xs.length nob = x := by simp [List.getD]
    rw [hg] at this
    simpa using this
/-- The cells that a list has, one by one. -/
theorem RdB.each {w : World} {a : Addr} {xs : List Bd} (h : RdB w (some a) xs) : ∀ j u, (bnds xs)[j]? = some u → w.cell? (a.add j) = some u := by
  intro j u hj
  have hlt : j < (bnds xs).length := by
    rcases Nat.lt_or_ge j (bnds xs).length with h | h
    · exact h
    · rw [List.getElem?_eq_none h] at hj; cases hj
  rw [bnds_len] at hlt
  rcases h with h | ⟨b, off, ha, hb, hc⟩
  · omega
  · injection ha with ha
    subst ha
    have hi : j / 4 < xs.length := by omega
    have hg := bnds_get xs (j / 4) (j % 4) hi (by omega)
    rw [show j / 4 * 4 + j % 4 = j by omega] at hg
    rw [hg] at hj
    obtain ⟨c0, c1, c2, c3⟩ := hc (j / 4) hi
    have hadd : (⟨b, off, none⟩ : Addr).add j = ⟨b, off + j, none⟩ := by simp [Addr.add]
    rw [hadd]
    have hm : j % 4 = 0 ∨ j % 4 = 1 ∨ j % 4 = 2 ∨ j % 4 = 3 := by omega
    rcases hm with hm | hm | hm | hm
    · rw [hm] at hj
      simp [cellsB] at hj
      rw [← hj, show off + j = off + j / 4 * 4 by omega]; exact c0
    · rw [hm] at hj
      simp [cellsB] at hj
      rw [← hj, show off + j = off + (j / 4 * 4 + 1) by omega]; exact c1
    · rw [hm] at hj
      simp [cellsB] at hj
      rw [← hj, show off + j = off + (j / 4 * 4 + 2) by omega]; exact c2
    · rw [hm] at hj
      simp [cellsB] at hj
      rw [← hj, show off + j = off + (j / 4 * 4 + 3) by omega]; exact c3
theorem ownB_empty (w : World) (B : Nat) (T : TypeId) (hb : B ≤ w.heap.size) : OwnB (w.alloc (.cells #[] T)) B T (.slice (some ⟨w.heap.size, 0, none⟩) 0 0) [] :=
  ⟨by simp [bnds], .inr ⟨w.heap.size, 0, #[], rfl, hb, rowNew w _, Nat.le_refl _, by unfold maxLen; omega, by simp, by simp [bnds]⟩⟩
theorem cells_all : ∀ (xs : List Bd), ∀ u ∈ bnds xs, u.oneCell' = true
  | [], u, hu => by simp [bnds] at hu
  | x :: xs, u, hu => by
    have hu' : u ∈ cellsB x ++ bnds xs := hu
    rcases List.mem_append.1 hu' with h | h
    · exact one_cell x u h
    · exact cells_all xs u h
theorem own_some {w : World} {B : Nat} {v : Value} {xs : List Bd} (h : OwnB w B 48 v xs) (h0 : 0 < xs.length) : ∃ g cap, v = .slice (some ⟨g, 0, none⟩) xs.length cap ∧ B ≤ g ∧ xs.length ≤ cap ∧ cap ≤ maxLen := by
  rcases h.2 with ⟨_, hn⟩ | ⟨g, cap, cur, hv, hB, _, hle, hm, _⟩
  · omega
  · exact ⟨g, cap, hv, hB, hle, hm⟩
/-- 'append(a, b...)': a is a list that the call made. -/
theorem spread {o : Oper} {a : Act} {K : Act → World → Prop} {Q : Exit → Act → World → Prop} {W : World} {s x : Operand} (ho : o.op = .call { callee := .builtin .append, args := #[s, x], argTypes := #[25, 25] }) (v : Value) (hs : a.eval s = v) {B : Nat} {xs ys : List Bd} (hown : OwnB W B 48 v xs) (hBW : B ≤ W.heap.size)
    {ao : Option Addr} {ca : Nat} (hx : a.eval x = .slice ao ys.length ca) (hr : RdB W ao ys) (hsh : (ao = none ∧ ys.length = 0 ∧ ca = 0) ∨ ∃ a, ao = some a) (hn : (xs.length + ys.length) * 48 ≤ 140737488355328)
    (h : ∀ v' w', OwnB w' B 48 v' (xs ++ ys) → W.grownBy w' v.ownBlock → K (a.put o.dst v') w') : o.wp Tryz.prog a W K Q := by
  obtain ⟨i0, hi, hz0, hz1, hz2⟩ := bind_parts
  rcases hsh with ⟨rfl, h0, rfl⟩ | ⟨ad, rfl⟩
  · have hys : ys = [] := List.length_eq_zero_iff.1 h0
    subst hys
    have hrun := run_append_owned_none (P := Tryz.prog) (w := W) B 25 o.type 48 i0 4 Tryz.underlying25 hi _ _ _ hown
    unfold Oper.wp
    simp [execOp, ho, resolve, invoke, builtin, hs, hx, hrun, Result.andThen]
    exact h _ _ (by rw [List.append_nil]; exact hown) ⟨rfl, rfl, rfl, Nat.le_refl _, fun _ _ _ => rfl⟩
  · refine wp_append_own W s x 25 ho B 48 i0 (.agg #[.string .empty, .int .i64 0, .int .i64 0, .string .empty]) 4 48 Tryz.underlying25 hi hz0 hz1 hz2 rfl (by decide) v xs.length (bnds xs) hs hown ad ys.length ca (bnds ys) hx (bnds_len ys) hr.each (cells_all ys) (by unfold maxLen; omega) (by omega) hBW ?_
    intro v' w' hown' hg _
    refine h v' w' ?_ hg
    unfold OwnB
    rw [List.length_append, bnds_app]
    exact hown'
theorem spreadL {ops : Array Oper} {rest : List Oper} {o : Oper} {a : Act} {Q : Exit → Act → World → Prop} {W : World} (hgd : o.guard = none) {s x : Operand} (ho : o.op = .call { callee := .builtin .append, args := #[s, x], argTypes := #[25, 25] }) (v : Value) (hs : a.eval s = v) {B : Nat} {xs ys : List Bd} (hown : OwnB W B 48 v xs) (hBW : B ≤ W.heap.size)
    {ao : Option Addr} {ca : Nat} (hx : a.eval x = .slice ao ys.length ca) (hr : RdB W ao ys) (hsh : (ao = none ∧ ys.length = 0 ∧ ca = 0) ∨ ∃ a, ao = some a) (hn : (xs.length + ys.length) * 48 ≤ 140737488355328)
    (h : ∀ v' w', OwnB w' B 48 v' (xs ++ ys) → W.grownBy w' v.ownBlock → wpList Tryz.prog ops Q rest (a.put o.dst v') w') : wpList Tryz.prog ops Q (o :: rest) a W :=
  wpList_plain hgd fun _ hK => spread ho v hs hown hBW hx hr hsh hn fun v' w' h1 h2 => hK _ _ (h v' w' h1 h2)
/-- The same, whatever the second list's place and capacity are. -/
theorem spreadN {o : Oper} {a : Act} {K : Act → World → Prop} {Q : Exit → Act → World → Prop} {W : World} {s x : Operand} (ho : o.op = .call { callee := .builtin .append, args := #[s, x], argTypes := #[25, 25] }) (v : Value) (hs : a.eval s = v) {B : Nat} {xs ys : List Bd} (hown : OwnB W B 48 v xs) (hBW : B ≤ W.heap.size)
    {ao : Option Addr} {ca : Nat} (hx : a.eval x = .slice ao ys.length ca) (hr : RdB W ao ys) (hn : (xs.length + ys.length) * 48 ≤ 140737488355328)
    (h : ∀ v' w', OwnB w' B 48 v' (xs ++ ys) → W.grownBy w' v.ownBlock → K (a.put o.dst v') w') : o.wp Tryz.prog a W K Q := by
  rcases ao with _ | ad
  · have hys : ys = [] := by
      rcases hr with h0 | ⟨b, off, ha, _⟩
      · exact List.length_eq_zero_iff.1 h0
      · cases ha
    subst hys
    obtain ⟨i0, hi, hz0, hz1, hz2⟩ := bind_parts
    have hrun : (Builtin.append_ #[25, 25] o.type #[v, .slice none 0 ca]).run Tryz.prog W = .ok v W := by
      have ht := Tryz.underlying25
      rcases hown.2 with ⟨rfl, _⟩ | ⟨g, cap, cur, rfl, _, _, hnc, _⟩
      · simp [Builtin.append_, run_underlying ht, sizeOf, typeInfo, hi, Builtin.lenOf, Builtin.firstCells]
      · simp [Builtin.append_, run_underlying ht, sizeOf, typeInfo, hi, Builtin.lenOf, Builtin.firstCells, hnc, storeCells]
    unfold Oper.wp
    simp only [List.length_nil] at hx
    simp [execOp, ho, resolve, invoke, builtin, hs, hx, hrun, Result.andThen]
    exact h _ _ (by rw [List.append_nil]; exact hown) ⟨rfl, rfl, rfl, Nat.le_refl _, fun _ _ _ => rfl⟩
  · exact spread ho v hs hown hBW hx hr (.inr ⟨ad, rfl⟩) hn h
theorem spreadNL {ops : Array Oper} {rest : List Oper} {o : Oper} {a : Act} {Q : Exit → Act → World → Prop} {W : World} (hgd : o.guard = none) {s x : Operand} (ho : o.op = .call { callee := .builtin .append, args := #[s, x], argTypes := #[25, 25] }) (v : Value) (hs : a.eval s = v) {B : Nat} {xs ys : List Bd} (hown : OwnB W B 48 v xs) (hBW : B ≤ W.heap.size)
    {ao : Option Addr} {ca : Nat} (hx : a.eval x = .slice ao ys.length ca) (hr : RdB W ao ys) (hn : (xs.length + ys.length) * 48 ≤ 140737488355328)
    (h : ∀ v' w', OwnB w' B 48 v' (xs ++ ys) → W.grownBy w' v.ownBlock → wpList Tryz.prog ops Q rest (a.put o.dst v') w') : wpList Tryz.prog ops Q (o :: rest) a W :=
  wpList_plain hgd fun _ hK => spreadN ho v hs hown hBW hx hr hn fun v' w' h1 h2 => hK _ _ (h v' w' h1 h2)
/-- Behind an append: what the call's list grew to, and what stays. -/
theorem spread_keep {W w' : World} {B : Nat} {v : Value} {xs : List Bd} (hown : OwnB W B 48 v xs) (hg : W.grownBy w' v.ownBlock) {k : Nat} {cs : Array Value} {T : TypeId} {fr : Nat × Nat} (hk : W.heap[k]? = some (.cells cs T fr)) (hT : T ≠ 48) : w'.heap[k]? = some (.cells cs T fr) := by
  refine (hg.block k (lt_of_block hk) ?_).trans hk
  intro e
  rcases hown.2 with ⟨rfl, _⟩ | ⟨g, cap, cur, rfl, _, h3, _⟩
  · simp [Value.ownBlock] at e
  · simp [Value.ownBlock] at e
    subst e
    rw [hk] at h3
    injection h3 with h3
    injection h3 with _ h3
    exact hT h3
end Go.Proofs.YtdgnhcbhbpffmaaGreatDoor
