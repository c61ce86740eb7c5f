/- Cut, the program's and the document's, and the chapter's examples, walked. -/
import Derived.Test.YthmnfffloioagaaDoorUtfH
namespace Go.Proofs.YthmnfffloioagaaDoor
open Go.ChangeShapes Go.WideShapes Go.ChangeAt Go.RowKit K U4
set_option linter.unusedVariables false

theorem ct_neg (l : List UInt8) {m : Int} (h : m < 0) : ctE l m = 1 ∧ ctT l m = [] := by unfold ctE ctT; rw [if_pos h, if_pos h]; exact ⟨rfl, rfl⟩
theorem ct_bad {l : List UInt8} {m : Int} (h : ¬ m < 0) (hc : chars l = none) : ctE l m = 40 ∧ ctT l m = [] := by
  unfold ctE ctT; rw [if_neg h, if_neg h, (chE_none hc).1, hc]; exact ⟨rfl, rfl⟩
theorem ct_ok {l : List UInt8} {m : Int} {cs : List Nat} (h : ¬ m < 0) (hc : chars l = some cs) : ctE l m = 0 ∧ ctT l m = l.take (ctN cs m.toNat) := by
  unfold ctE ctT; rw [if_neg h, if_neg h, (chE_some hc).1, (chE_some hc).2, hc]; exact ⟨rfl, rfl⟩
def CuRel (l : List UInt8) (ct M : Nat) (w : World) (g : Nat) (v7 : Value) (wr : World) : Prop :=
  ∃ p, p = ct + g ∧ p ≤ l.length ∧ p ≤ M ∧ v7 = .int .i64 (p : Nat) ∧ wr = w
set_option maxRecDepth 100000 in
set_option maxHeartbeats 1000000 in
theorem cut_walk (l : List UInt8) (hl : l.length ≤ 140737488351232) (m : Int) (hm : m ≤ 9223372036854775807) (w : World) (ht : Leads w) :
    Calls Tryd.prog 23 #[.string (bs l), .int .i64 m] w fun e w' => e = .returned (.tuple #[.string (bs (ctT l m)), .int .i64 (ctE l m : Nat)]) ∧ Dr w w' := by
  by_cases hneg : m < 0
  · rw [(ct_neg l hneg).1, (ct_neg l hneg).2]
    go_enter Tryd.func23, Tryd.ntmps23
    go_wp2
    go_ret2
    exact ⟨rfl, Dr.refl w⟩
  · obtain ⟨M, rfl⟩ := Int.eq_ofNat_of_zero_le (show 0 ≤ m by omega)
    have hC := check_walk l hl w ht
    rcases chE_cases l with ⟨e1, cs, e2, e3, ha, e4⟩ | ⟨e1, e2, e3⟩
    · have h1 := ct_ok (m := (M : Int)) hneg e2
      have hle := ctN_le cs M
      have hall := ctN_all cs M
      have hbd := ctN_bd cs M ha
      have hfo := fun q => ctN_fol cs M q ha
      rw [e4] at hle hall hbd hfo
      simp only [Int.toNat_natCast] at h1
      rw [e1] at hC
      generalize ctN cs M = ct at h1 hle hall hbd hfo
      have H1 := Lib.hid h1
      have HC := Lib.hid hC
      have HALL := Lib.hid hall
      have HBD := Lib.hid hbd
      have HFO := Lib.hid hfo
      obtain ⟨hcM, hcl⟩ := hle
      clear h1 hC hall hbd hfo e1 e2 e3 e4 ha hneg ht
      have hpm : min M l.length ≤ M ∧ min M l.length ≤ l.length ∧ (min M l.length = M ∨ min M l.length = l.length) := by omega
      have hd9 : decide (((M : Nat) : Int) < 0) = false := decide_eq_false (by omega)
      go_enter Tryd.func23, Tryd.ntmps23
      go_wp2_with fail
      refine HC.out.mono ?_
      rintro e w1 ⟨rfl, d1⟩
      go_wp2
      clear hd9
      go_loopg [7] (min M l.length - ct) (fun g v7 wr => CuRel l ct M w1 g v7 wr)
      case atStart =>
        refine ⟨min M l.length, ?_, hpm.2.1, hpm.1, by congr 1; omega, rfl⟩
        rcases hpm.2.2 with h | h <;> omega
      case round =>
        obtain ⟨p, hpg, hpl, hpM, rfl, rfl⟩ := hrel
        clear hpm
        cases gk with
        | zero =>
          obtain rfl : p = ct := by omega
          clear hpg
          by_cases hend : p = l.length
          · subst hend
            have HX := Lib.hid (show l.take l.length = l from List.take_length)
            go_wp2
            go_ret2
            rw [H1.out.1, H1.out.2, HX.out]
            exact ⟨rfl, d1⟩
          · have hlt : p < l.length := by omega
            have hff : foll (byt l p) = false := (HBD.out).resolve_left hend
            have hF := follows_walk (byt l p) (byt_lt l p)
            rw [hff] at hF
            have HF := Lib.hid hF
            clear hff hF hend
            go_wp2_with fail
            refine (HF.out _).mono ?_
            rintro e w2 ⟨rfl, rfl⟩
            go_wp2
            go_ret2
            rw [H1.out.1, H1.out.2]
            exact ⟨rfl, d1⟩
        | succ g =>
          have hlt : p < l.length := by
            rcases Nat.lt_or_ge p l.length with h | h
            · exact h
            · have := HALL.out (by omega); omega
          have hff : foll (byt l p) = true := HFO.out p (by omega) hpM hlt
          have hF := follows_walk (byt l p) (byt_lt l p)
          rw [hff] at hF
          have HF := Lib.hid hF
          have HPG := Lib.hid hpg
          have hp1 : 1 ≤ p := by omega
          clear hff hF hpg
          go_wp2_with fail
          refine (HF.out _).mono ?_
          rintro e w2 ⟨rfl, rfl⟩
          go_wp2
          go_roundg g
          case measure => omega
          case rel =>
            have := HPG.out
            exact ⟨p - 1, by omega, by omega, by omega, by congr 1; omega, rfl⟩
    · have h1 := ct_bad (m := (M : Int)) hneg e2
      rw [e1] at hC
      have HC := Lib.hid hC
      have H1 := Lib.hid h1
      clear hC h1 e1 e2 e3
      go_enter Tryd.func23, Tryd.ntmps23
      go_wp2_with fail
      refine HC.out.mono ?_
      rintro e w1 ⟨rfl, d1⟩
      go_wp2
      go_ret2
      rw [H1.out.1, H1.out.2]
      exact ⟨rfl, d1⟩
theorem drop_get {cs : List Nat} {i : Nat} (h : i < cs.length) : cs.drop i = cs.getD i 0 :: cs.drop (i + 1) := by
  rw [List.drop_eq_getElem_cons h]; simp [List.getD, List.getElem?_eq_getElem h]
def CuqRel (cs : List Nat) (M ct : Nat) (w : World) (B g : Nat) (v8 v9 : Value) (wr : World) : Prop :=
  ∃ i p, i + g = cs.length ∧ p + ctN (cs.drop i) (M - p) = ct ∧ p ≤ M ∧ v8 = .int .i64 (p : Nat) ∧ v9 = .int .i64 (i : Nat) ∧ Below w.heap.size w wr ∧ Below B w wr
set_option maxRecDepth 100000 in
set_option maxHeartbeats 1000000 in
theorem qcut_walk (l : List UInt8) (hl : l.length ≤ 10000) (m : Int) (hm : m ≤ 9223372036854775807) (w : World) :
    Calls Tryd.prog 24 #[.string (bs l), .int .i64 m] w fun e w' => e = .returned (.tuple #[.string (bs (ctT l m)), .int .i64 (ctE l m : Nat)]) ∧ Below w.heap.size w w' := by
  by_cases hneg : m < 0
  · rw [(ct_neg l hneg).1, (ct_neg l hneg).2]
    go_enter Tryd.func24, Tryd.ntmps24
    go_wp2
    go_ret2
    exact ⟨rfl, Below.refl _ _⟩
  · obtain ⟨M, rfl⟩ := Int.eq_ofNat_of_zero_le (show 0 ≤ m by omega)
    have HC := Lib.hid (qchars_walk l hl w)
    have hd11 : decide (((M : Nat) : Int) < 0) = false := decide_eq_false (by omega)
    rcases chE_cases l with ⟨e1, cs, e2, e3, ha, e4⟩ | ⟨e1, e2, e3⟩
    · have h1 := ct_ok (m := (M : Int)) hneg e2
      have hle := ctN_le cs M
      have hcsl := flat_len cs
      rw [e4] at hle hcsl
      simp only [Int.toNat_natCast] at h1
      have HST := Lib.hid (show (0 : Nat) + ctN (cs.drop 0) (M - 0) = ctN cs M by simp)
      generalize ctN cs M = ct at h1 hle HST
      have H1 := Lib.hid h1
      obtain ⟨hcM, hcl⟩ := hle
      have HE1 := Lib.hid e1
      have HE3 := Lib.hid e3
      have HA := Lib.hid ha
      clear h1 e1 e2 e3 e4 ha hneg
      go_enter Tryd.func24, Tryd.ntmps24
      go_wp2_with fail
      refine HC.out.mono ?_
      rintro e w1 ⟨v, rfl, ho, hb⟩
      rw [HE3.out] at ho
      rw [HE1.out]
      obtain ⟨ao, cap, rfl, hform⟩ := ho.form
      have HF := Lib.hid hform
      clear ho hform
      go_wp2
      clear hd11
      go_loopg [8, 9] cs.length (fun g v8 v9 wr => CuqRel cs M ct w1 w.heap.size g v8 v9 wr)
      case atStart => exact ⟨0, 0, by omega, HST.out, by omega, rfl, rfl, Below.refl _ _, Below.refl _ _⟩
      case round =>
        obtain ⟨i, p, hig, hpc, hpM, rfl, rfl, hb1, hb2⟩ := hrel
        cases gk with
        | zero =>
          obtain rfl : i = cs.length := by omega
          rw [List.drop_length] at hpc
          obtain rfl : p = ct := by simpa [ctN] using hpc
          have hb3 := hb.trans hb2
          clear hpc hig HF
          go_wp2
          go_ret2
          rw [H1.out.1, H1.out.2]
          exact ⟨rfl, hb3⟩
        | succ g =>
          have hil : i < cs.length := by omega
          rw [drop_get hil] at hpc
          unfold ctN at hpc
          rcases HF.out with h0 | ⟨gb, rfl, hgB, hgs, hcells⟩
          · omega
          · have hcell := hb1.cell (p := ⟨gb, i, none⟩) hgs
            rw [(hcells i hil).1] at hcell
            have hic : isC (cs.getD i 0) = true := HA.out _ (by
              rw [List.getD, List.getElem?_eq_getElem hil]; exact List.getElem_mem hil)
            have HM := Lib.hid (fun w2 => qmade_walk (cs.getD i 0) hic w2)
            have hlm := made_len (cs.getD i 0)
            have hlp := lg_pos (cs.getD i 0)
            generalize cs.getD i 0 = c at *
            clear hcells hic HF
            have HML := Lib.hid hlm
            clear hlm
            by_cases hfit : lg c ≤ M - p
            · rw [if_pos hfit] at hpc
              have HPC := Lib.hid hpc
              clear hpc
              generalize hL : lg c = L at *
              have hlml : (made c).length = L := HML.out
              clear hL
              generalize made c = X at *
              subst hlml
              go_wp2_with fail
              refine (HM.out _).mono ?_
              rintro e w2 ⟨rfl, k2⟩
              have hb3 := hb1.trans (k2.mono hb1.size)
              have hb4 := hb2.trans (k2.mono (Nat.le_trans hb.size hb1.size))
              clear k2 hb1 hb2 hcell
              go_wp2
              go_roundg g
              case measure => omega
              case rel => exact ⟨i + 1, p + X.length, by omega, by rw [← HPC.out, Nat.sub_sub]; omega, by omega, by simp, by simp, hb3, hb4⟩
            · rw [if_neg hfit] at hpc
              obtain rfl : p = ct := by omega
              clear hpc
              generalize hL : lg c = L at *
              have hlml : (made c).length = L := HML.out
              clear hL
              generalize made c = X at *
              subst hlml
              have hfit' : ((M : Nat) : Int) - (p : Nat) < (X.length : Nat) := by omega
              clear hfit
              go_wp2_with fail
              refine (HM.out _).mono ?_
              rintro e w2 ⟨rfl, k2⟩
              have hb4 := hb.trans (hb2.trans (k2.mono (Nat.le_trans hb.size hb1.size)))
              clear k2 hb1 hb2 hcell
              go_wp2
              go_ret2
              rw [H1.out.1, H1.out.2]
              exact ⟨rfl, hb4⟩
    · have h1 := ct_bad (m := (M : Int)) hneg e2
      have H1 := Lib.hid h1
      have HE1 := Lib.hid e1
      clear h1 e1 e2 e3
      go_enter Tryd.func24, Tryd.ntmps24
      go_wp2_with fail
      refine HC.out.mono ?_
      rintro e w1 ⟨v, rfl, ho, hb⟩
      clear ho
      rw [HE1.out]
      go_wp2
      go_ret2
      rw [H1.out.1, H1.out.2]
      exact ⟨rfl, hb⟩

theorem works_vals : made 8364 = [226, 130, 172] ∧ isC 8364 = true ∧ shown [97, 0, 255] = [97, 92, 120, 48, 48, 92, 120, 102, 102] := by decide +kernel
set_option maxRecDepth 100000 in
theorem works_walk (w : World) (ht : Leads w) :
    Calls Tryd.prog 8 #[] w fun e w' => e = .returned (.bool true) ∧ Below w.heap.size w w' := by
  obtain ⟨v1, v2, v3⟩ := works_vals
  have hA := bytes_yes 8364 v2 w ht
  have hB := fun w1 (h : Leads w1) => shown_walk [97, 0, 255] (by simp) w1 h
  rw [v1] at hA
  rw [v3] at hB
  have HA := Lib.hid hA
  have HB := Lib.hid hB
  clear hA hB v1 v2 v3
  go_enter Tryd.func8, Tryd.ntmps8
  go_wp2_with fail
  refine HA.out.mono ?_
  rintro e w1 ⟨rfl, b1⟩
  go_wp2_with fail
  refine (HB.out w1 (ht.below b1)).mono ?_
  rintro e w2 ⟨rfl, b2⟩
  go_wp2
  go_ret
  exact ⟨rfl, b1.trans (b2.mono b1.size)⟩
end Go.Proofs.YthmnfffloioagaaDoor
