/- The document's name and value, walked. -/
import Derived.Test.YtkpcfbadhoiigaaDoorQuoA
namespace Go.Proofs.YtkpcfbadhoiigaaDoor
open Go.ChangeShapes Go.WideShapes Go.ChangeAt Go.RowKit K Q10
set_option linter.unusedVariables false

def stN (n : Nat) : Bool := n == 32 || n == 61 || n == 93 || n == 34
theorem u8k (b k : UInt8) : (b == k) = (b.toNat == k.toNat) := by
  rw [Bool.eq_iff_iff, beq_iff_eq, beq_iff_eq]; exact ⟨fun e => by rw [e], fun e => UInt8.toNat_inj.1 e⟩
theorem stp_of (b : UInt8) : stp b = stN b.toNat := by
  unfold stp stN
  rw [u8k b 32, u8k b 61, u8k b 93, u8k b 34]; rfl
theorem drop_at (l : List UInt8) (p : Nat) (h : p < l.length) : l.drop p = l.getD p 0 :: l.drop (p + 1) := by
  rw [List.drop_eq_getElem_cons h]; simp [List.getD, List.getElem?_eq_getElem h]
theorem nm_at {l : List UInt8} {p : Nat} (hp : p ≤ l.length) (ha : (l.take p).all (fun b => !stp b) = true) (hs : p < l.length → stN (byt l p) = true) : nmT l = l.take p ∧ nmR l = l.drop p := by
  have h := nm_app (n := l.take p) (r := l.drop p) (fun b hb => by
    have := List.all_eq_true.1 ha b hb
    simpa using this) (fun b hb => by
    by_cases h : p < l.length
    · rw [drop_at l p h] at hb
      simp only [List.head?_cons, Option.some.injEq] at hb
      rw [← hb, stp_of]; exact hs h
    · rw [List.drop_of_length_le (by omega)] at hb; cases hb)
  rw [List.take_append_drop] at h
  exact h
theorem nst_step (l : List UInt8) (p : Nat) (h : p < l.length) : (l.take (p + 1)).all (fun b => !stp b) = ((l.take p).all (fun b => !stp b) && !stN (byt l p)) := by
  rw [take_one l p h, List.all_append, ← byt_getD, ← stp_of]; simp
theorem st_four {n : Nat} (h : stN n = true) : n = 32 ∨ n = 61 ∨ n = 93 ∨ n = 34 := by
  unfold stN at h
  simp only [Bool.or_eq_true, beq_iff_eq] at h
  omega
theorem st_none {n : Nat} (h : stN n = false) : n ≠ 32 ∧ n ≠ 61 ∧ n ≠ 93 ∧ n ≠ 34 := by
  unfold stN at h
  simp only [Bool.or_eq_false_iff, beq_eq_false_iff_ne] at h
  omega
def NmRel (l : List UInt8) (w : World) (g : Nat) (v4 : Value) (wr : World) : Prop :=
  ∃ p, p + g = l.length ∧ (l.take p).all (fun b => !stp b) = true ∧ v4 = .int .i64 (p : Nat) ∧ Dr w wr
set_option maxRecDepth 100000 in
theorem qname_walk (l : List UInt8) (hl : l.length ≤ 140737488351232) (w : World) :
    Calls Tryd.prog 56 #[.string (bs l)] w fun e w' => e = .returned (.tuple #[.string (bs (nmT l)), .string (bs (nmR l))]) ∧ Dr w w' := by
  go_enter Tryd.func56, Tryd.ntmps56
  go_wp2
  go_loopg [4] l.length (fun g v4 wr => NmRel l w g v4 wr)
  case atStart => exact ⟨0, by omega, rfl, rfl, Dr.refl w⟩
  case round =>
    obtain ⟨p, hg, ha, rfl, hd⟩ := hrel
    have HD := Lib.hid hd
    clear hd
    cases gk with
    | zero =>
      have hp : l.length ≤ p := by omega
      have hp2 : p ≤ l.length := by omega
      have HN := Lib.hid (nm_at hp2 ha (fun h => by omega))
      clear ha hg
      go_wp2_with fail
      go_quiet (fail)
      go_wp2
      go_ret2
      rw [HN.out.1, HN.out.2]
      exact ⟨by simp, HD.out.trans ⟨_, rfl⟩⟩
    | succ g =>
      have hp : p < l.length := by omega
      have hp2 : p ≤ l.length := by omega
      have HA := Lib.hid (nst_step l p hp)
      have HN := Lib.hid (fun h => nm_at hp2 ha (fun _ => h))
      have HAA := Lib.hid ha
      clear ha
      cases hs : stN (byt l p)
      · obtain ⟨n1, n2, n3, n4⟩ := st_none hs
        have e1 : (((byt l p : Nat) : Int) != 32) = true := by rw [bne_iff_ne]; omega
        have e2 : (((byt l p : Nat) : Int) != 61) = true := by rw [bne_iff_ne]; omega
        have e3 : (((byt l p : Nat) : Int) != 93) = true := by rw [bne_iff_ne]; omega
        have e4 : (((byt l p : Nat) : Int) != 34) = true := by rw [bne_iff_ne]; omega
        have HB := Lib.hid (show (l.take (p + 1)).all (fun b => !stp b) = true by rw [HA.out, HAA.out, hs]; rfl)
        clear n1 n2 n3 n4 hs
        go_wp2
        go_roundg g
        case measure => omega
        case rel => exact ⟨p + 1, by omega, HB.out, by simp, HD.out⟩
      · have HM := Lib.hid (HN.out hs)
        rcases st_four hs with hb | hb | hb | hb
        all_goals
          clear hs
          go_wp2_with fail
          go_quiet (fail)
          go_wp2
          go_ret2
          rw [HM.out.1, HM.out.2]
          exact ⟨by simp, HD.out.trans ⟨_, rfl⟩⟩
/-! ### Values -/
def vcs (out : List UInt8) : Option (List UInt8 × List UInt8) → Option (List UInt8 × List UInt8)
  | some (o, r) => some (out ++ o, r)
  | none => none
theorem vcs_nil (x : Option (List UInt8 × List UInt8)) : vcs [] x = x := by rcases x with _ | ⟨o, r⟩ <;> rfl
theorem vcs_vc (out : List UInt8) (b : UInt8) (x : Option (List UInt8 × List UInt8)) : vcs out (vc b x) = vcs (out ++ [b]) x := by
  rcases x with _ | ⟨o, r⟩
  · rfl
  · simp [vcs, vc]
def vlT (l : List UInt8) : List UInt8 := match vl l with | some (o, _) => o | none => []
def vlR (l : List UInt8) : List UInt8 := match vl l with | some (_, r) => r | none => []
def vlB (l : List UInt8) : Bool := (vl l).isSome
theorem vl_is {l o r : List UInt8} (h : vl l = some (o, r)) : vlT l = o ∧ vlR l = r ∧ vlB l = true := by unfold vlT vlR vlB; rw [h]; exact ⟨rfl, rfl, rfl⟩
theorem vl_not {l : List UInt8} (h : vl l = none) : vlT l = [] ∧ vlR l = [] ∧ vlB l = false := by unfold vlT vlR vlB; rw [h]; exact ⟨rfl, rfl, rfl⟩
/-- What stands at a place of a value. -/
inductive VlAt (l : List UInt8) (p : Nat) : Prop
  | fin (h : l.length ≤ p) (e : vl (l.drop p) = none)
  | quo (h : p < l.length) (hb : byt l p = 34) (e : vl (l.drop p) = some ([], l.drop (p + 1)))
  | brk (h : p < l.length) (hb : byt l p = 93) (e : vl (l.drop p) = none)
  | esc (h : p + 1 < l.length) (hb : byt l p = 92) (hs : spN (byt l (p + 1)) = true) (e : vl (l.drop p) = vc (l.getD (p + 1) 0) (vl (l.drop (p + 2))))
  | bsl (h : p + 1 < l.length) (hb : byt l p = 92) (hs : spN (byt l (p + 1)) = false) (e : vl (l.drop p) = vc (l.getD p 0) (vl (l.drop (p + 1))))
  | las (h : p < l.length) (h2 : l.length ≤ p + 1) (hb : byt l p = 92) (e : vl (l.drop p) = vc (l.getD p 0) (vl (l.drop (p + 1))))
  | byte (h : p < l.length) (h1 : byt l p ≠ 34) (h2 : byt l p ≠ 93) (h3 : byt l p ≠ 92) (e : vl (l.drop p) = vc (l.getD p 0) (vl (l.drop (p + 1))))
theorem getD_u8 {l : List UInt8} {p : Nat} {k : UInt8} : byt l p = k.toNat ↔ l.getD p 0 = k := by
  rw [← byt_getD]; exact UInt8.toNat_inj
theorem vl_all (l : List UInt8) (p : Nat) : VlAt l p := by
  by_cases h : p < l.length
  rotate_left
  · exact .fin (by omega) (by rw [List.drop_of_length_le (by omega)]; rfl)
  have hd := drop_at l p h
  by_cases b1 : byt l p = 34
  · have e : l.getD p 0 = 34 := getD_u8.1 b1
    exact .quo h b1 (by rw [hd, e, vl_end])
  by_cases b2 : byt l p = 93
  · have e : l.getD p 0 = 93 := getD_u8.1 b2
    exact .brk h b2 (by rw [hd, e, vl_no])
  have c1 : l.getD p 0 ≠ 34 := fun e => b1 (getD_u8.2 e)
  have c2 : l.getD p 0 ≠ 93 := fun e => b2 (getD_u8.2 e)
  by_cases b3 : byt l p = 92
  · have e3 : l.getD p 0 = 92 := getD_u8.1 b3
    by_cases h2 : p + 1 < l.length
    · have hd2 := drop_at l (p + 1) h2
      cases hs : spN (byt l (p + 1))
      · refine .bsl h2 b3 hs ?_
        rw [hd]
        refine vl_one c1 c2 (fun _ c q hq => ?_)
        rw [hd2] at hq
        injection hq with hq _
        rw [← hq, spc_of, byt_getD, hs]
      · refine .esc h2 b3 hs ?_
        rw [hd, hd2, e3]
        exact vl_esc1 (by rw [spc_of, byt_getD, hs]) _
    · refine .las h (by omega) b3 ?_
      rw [hd]
      refine vl_one c1 c2 (fun _ c q hq => ?_)
      rw [List.drop_of_length_le (by omega)] at hq; cases hq
  · refine .byte h b1 b2 b3 ?_
    rw [hd]
    exact vl_one c1 c2 (fun e => absurd (getD_u8.2 e) b3)
theorem cut2_run (l : List UInt8) (p : Nat) (h : p + 1 < l.length) : ∀ w, (Instr.slice 9 (.string (bs l)) (some (.int .i64 ((p : Int) + 1))) (some (.int .i64 ((p : Int) + 1 + 1))) none).run Tryd.prog w = .ok (.string (bs [l.getD (p + 1) 0])) w := by
  have := cut1_run l (p + 1) h
  rw [show (((p + 1 : Nat)) : Int) = (p : Int) + 1 by omega] at this
  exact this
def VlRel (l : List UInt8) (w : World) (g : Nat) (v5 v6 : Value) (wr : World) : Prop :=
  ∃ p out, p + g = l.length ∧ vl l = vcs out (vl (l.drop p)) ∧ out.length ≤ p ∧ v5 = .string (bs out) ∧ v6 = .int .i64 (p : Nat) ∧ Dr w wr
set_option maxRecDepth 100000 in
set_option maxHeartbeats 1000000 in
theorem qvalue_walk (l : List UInt8) (hl : l.length ≤ 1000000000) (w : World) :
    Calls Tryd.prog 57 #[.string (bs l)] w fun e w' => e = .returned (.tuple #[.string (bs (vlT l)), .string (bs (vlR l)), .bool (vlB l)]) ∧ Dr w w' := by
  go_enter Tryd.func57, Tryd.ntmps57
  go_wp2
  go_loopg [5, 6] l.length (fun g v5 v6 wr => VlRel l w g v5 v6 wr)
  case atStart => exact ⟨0, [], by omega, (vcs_nil _).symm, by simp, rfl, rfl, Dr.refl w⟩
  case round =>
    obtain ⟨p, out, hg, hv, ho, rfl, rfl, hd⟩ := hrel
    have HD := Lib.hid hd
    clear hd
    cases vl_all l p with
    | fin h e =>
      rw [e] at hv
      have HN := Lib.hid (vl_not hv)
      clear hv e
      go_wp2
      go_ret3
      obtain ⟨n1, n2, n3⟩ := HN.out
      rw [n1, n2, n3]
      exact ⟨rfl, HD.out⟩
    | quo h hb e =>
      rw [e] at hv
      have hv2 : vl l = some (out, l.drop (p + 1)) := by rw [hv]; simp [vcs]
      have HN := Lib.hid (vl_is hv2)
      clear hv hv2 e
      go_wp2_with fail
      go_quiet (fail)
      go_wp2
      go_ret3
      obtain ⟨n1, n2, n3⟩ := HN.out
      rw [n1, n2, n3]
      exact ⟨by simp, HD.out.trans ⟨_, rfl⟩⟩
    | brk h hb e =>
      rw [e] at hv
      have HN := Lib.hid (vl_not hv)
      clear hv e
      go_wp2
      go_ret3
      obtain ⟨n1, n2, n3⟩ := HN.out
      rw [n1, n2, n3]
      exact ⟨rfl, HD.out⟩
    | esc h hb hs e =>
      rw [e, vcs_vc] at hv
      have HV := Lib.hid hv
      have HSP := Lib.hid (fun w1 => qspecial_walk (byt l (p + 1)) w1)
      rw [hs] at HSP
      have hc := cut2_run l p h
      clear hv e hs
      generalize l.getD (p + 1) 0 = x at *
      go_wp2_with fail
      refine (HSP.out _).mono ?_
      rintro e w1 ⟨rfl, rfl⟩
      go_wp2
      go_roundg (l.length - (p + 2))
      case measure => omega
      case rel => exact ⟨p + 2, out ++ [x], by omega, HV.out, by simp; omega, by simp, by simp; omega, HD.out⟩
    | bsl h hb hs e =>
      rw [e, vcs_vc] at hv
      have HV := Lib.hid hv
      have HSP := Lib.hid (fun w1 => qspecial_walk (byt l (p + 1)) w1)
      rw [hs] at HSP
      have hc := cut1_run l p (by omega)
      clear hv e hs
      generalize l.getD p 0 = x at *
      go_wp2_with fail
      refine (HSP.out _).mono ?_
      rintro e w1 ⟨rfl, rfl⟩
      go_wp2
      go_roundg (l.length - (p + 1))
      case measure => omega
      case rel => exact ⟨p + 1, out ++ [x], by omega, HV.out, by simp; omega, by simp, by simp, HD.out⟩
    | las h h2 hb e =>
      rw [e, vcs_vc] at hv
      have HV := Lib.hid hv
      have hc := cut1_run l p (by omega)
      clear hv e
      generalize l.getD p 0 = x at *
      go_wp2
      go_roundg (l.length - (p + 1))
      case measure => omega
      case rel => exact ⟨p + 1, out ++ [x], by omega, HV.out, by simp; omega, by simp, by simp, HD.out⟩
    | byte h h1 h2 h3 e =>
      rw [e, vcs_vc] at hv
      have HV := Lib.hid hv
      have hc := cut1_run l p (by omega)
      have e1 : (((byt l p : Nat) : Int) == 34) = false := by rw [beq_eq_false_iff_ne]; omega
      have e2 : (((byt l p : Nat) : Int) == 93) = false := by rw [beq_eq_false_iff_ne]; omega
      have e3 : (((byt l p : Nat) : Int) == 92) = false := by rw [beq_eq_false_iff_ne]; omega
      clear hv e h1 h2 h3
      generalize l.getD p 0 = x at *
      go_wp2
      go_roundg (l.length - (p + 1))
      case measure => omega
      case rel => exact ⟨p + 1, out ++ [x], by omega, HV.out, by simp; omega, by simp, by simp, HD.out⟩
end Go.Proofs.YtkpcfbadhoiigaaDoor
