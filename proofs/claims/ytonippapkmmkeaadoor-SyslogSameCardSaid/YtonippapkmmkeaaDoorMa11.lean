/- Texts on the program and on the document, joined: QuqA, QuoB. -/
import Derived.Test.YtonippapkmmkeaaDoorMa10
/- The program's inNames, nameLong, IsName and isEscaped, walked. -/
namespace Go.Proofs.YtonippapkmmkeaaDoor
open Go.ChangeShapes Go.WideShapes Go.ChangeAt Go.RowKit K Q10
set_option linter.unusedVariables false

theorem innames_walk (n : Nat) (w : World) :
    Calls Tryd.prog 84 #[.int .u8 (n : Nat)] w fun e w' => e = .returned (.bool (nbN n)) ∧ w = w' := by
  have HS := Lib.hid (show nbN n = (decide (33 ≤ n) && decide (n ≤ 126) && !(n == 61) && !(n == 93) && !(n == 34)) from rfl)
  by_cases h1 : n = 61
  · subst h1
    go_enter Tryd.func84, Tryd.ntmps84
    go_wp2
    go_ret
    exact ⟨rfl, rfl⟩
  by_cases h2 : n = 93
  · subst h2
    go_enter Tryd.func84, Tryd.ntmps84
    go_wp2
    go_ret
    exact ⟨rfl, rfl⟩
  by_cases h3 : n = 34
  · subst h3
    go_enter Tryd.func84, Tryd.ntmps84
    go_wp2
    go_ret
    exact ⟨rfl, rfl⟩
  have e1 : (((n : Nat) : Int) == 61) = false := by rw [beq_eq_false_iff_ne]; omega
  have e2 : (((n : Nat) : Int) == 93) = false := by rw [beq_eq_false_iff_ne]; omega
  have e3 : (((n : Nat) : Int) == 34) = false := by rw [beq_eq_false_iff_ne]; omega
  by_cases h4 : n < 33
  · have HN := Lib.hid (show nbN n = false by rw [HS.out]; simp; omega)
    have e4 : ((n : Nat) : Int) < 33 := by omega
    clear h1 h2 h3 h4
    go_enter Tryd.func84, Tryd.ntmps84
    go_wp2
    go_ret
    rw [HN.out]
    exact ⟨rfl, rfl⟩
  have e4 : ¬ ((n : Nat) : Int) < 33 := by omega
  by_cases h5 : 126 < n
  · have HN := Lib.hid (show nbN n = false by rw [HS.out]; simp; omega)
    have e5 : (126 : Int) < ((n : Nat) : Int) := by omega
    clear h1 h2 h3 h4 h5
    go_enter Tryd.func84, Tryd.ntmps84
    go_wp2
    go_ret
    rw [HN.out]
    exact ⟨rfl, rfl⟩
  have HN := Lib.hid (show nbN n = true by rw [HS.out]; simp [h1, h2, h3]; omega)
  have e5 : ¬ (126 : Int) < ((n : Nat) : Int) := by omega
  clear h1 h2 h3 h4 h5
  go_enter Tryd.func84, Tryd.ntmps84
  go_wp2
  go_ret
  rw [HN.out]
  exact ⟨rfl, rfl⟩
theorem isescaped_walk (n : Nat) (w : World) :
    Calls Tryd.prog 88 #[.int .u8 (n : Nat)] w fun e w' => e = .returned (.bool (spN n)) ∧ w = w' := by
  have e1 : (((n : Nat) : Int) == 34) = (n == 34) := eqk n 34
  have e2 : (((n : Nat) : Int) == 92) = (n == 92) := eqk n 92
  have e3 : (((n : Nat) : Int) == 93) = (n == 93) := eqk n 93
  have HS := Lib.hid (show spN n = (n == 34 || n == 92 || n == 93) from rfl)
  generalize spN n = S at *
  generalize (n == 34) = x1 at *
  generalize (n == 92) = x2 at *
  generalize (n == 93) = x3 at *
  cases x1 <;> cases x2 <;> cases x3
  all_goals
    go_enter Tryd.func88, Tryd.ntmps88
    go_wp2
    go_ret
    rw [HS.out]
    exact ⟨rfl, rfl⟩
/-! ### How long a name is -/
theorem nmP_all {l : List UInt8} {p : Nat} (h : (l.take p).all nb = true) (hp : p ≤ l.length) (hn : l.length ≤ p ∨ nbN (byt l p) = false) : (nmP l).length = p := by
  have hk := nmP_ok (n := l.take p) (r := l.drop p) (List.all_eq_true.1 h) (fun b t e => by
    rcases hn with hn | hn
    · rw [List.drop_eq_nil_of_le hn] at e; cases e
    · by_cases hlt : p < l.length
      · rw [List.drop_eq_getElem_cons hlt] at e
        injection e with e _
        rw [← e, nb_of, show l[p].toNat = byt l p by rw [← byt_getD]; simp [List.getD, List.getElem?_eq_getElem hlt]]
        exact hn
      · rw [List.drop_eq_nil_of_le (by omega)] at e; cases e)
  rw [List.take_append_drop] at hk
  rw [hk.1, List.length_take]; omega
def NlRel (l : List UInt8) (w : World) (g : Nat) (v3 v6 : Value) (wr : World) : Prop :=
  ∃ p, p + g = l.length ∧ (l.take p).all nb = true ∧ v6 = .int .i64 (p : Nat) ∧ w = wr
set_option maxRecDepth 100000 in
theorem namelong_walk (l : List UInt8) (hl : l.length ≤ 140737488355327) (w : World) :
    Calls Tryd.prog 71 #[.string (bs l)] w fun e w' => e = .returned (.int .i64 ((nmP l).length : Nat)) ∧ w = w' := by
  go_enter Tryd.func71, Tryd.ntmps71
  go_wp2
  go_loopg [3, 6] l.length (fun g v3 v6 wr => NlRel l w g v3 v6 wr)
  case atStart => exact ⟨0, by omega, rfl, rfl, rfl⟩
  case round =>
    obtain ⟨p, hg, ha, rfl, rfl⟩ := hrel
    cases gk with
    | zero =>
      have hp : l.length ≤ p := by omega
      have HP := Lib.hid (nmP_all ha (by omega) (.inl hp))
      have HE := Lib.hid (show l.length = p by omega)
      clear ha
      go_wp2
      go_ret
      rw [HP.out, HE.out]
      exact ⟨rfl, rfl⟩
    | succ g =>
      have hp : p < l.length := by omega
      have HA := Lib.hid (all_step l p hp)
      have HNO := Lib.hid (fun h => nmP_all ha (by omega) (.inr h))
      have HI := Lib.hid (fun w1 => innames_walk (byt l p) w1)
      have HAA := Lib.hid ha
      clear ha
      cases hb : nbN (byt l p)
      · rw [hb] at HI
        have HP := Lib.hid (HNO.out hb)
        clear hb
        go_wp2_with fail
        refine (HI.out _).mono ?_
        rintro e w1 ⟨rfl, rfl⟩
        go_wp2
        go_ret
        rw [HP.out]
        exact ⟨rfl, rfl⟩
      · have HS := Lib.hid (show (l.take (p + 1)).all nb = true by rw [HA.out, HAA.out, hb]; rfl)
        rw [hb] at HI
        clear hb
        go_wp2_with fail
        refine (HI.out _).mono ?_
        rintro e w1 ⟨rfl, rfl⟩
        go_wp2
        go_roundg g
        case measure => omega
        case rel => exact ⟨p + 1, by omega, HS.out, by simp, rfl⟩
theorem isN_is (l : List UInt8) : isN l = (!l.isEmpty && (decide (l.length ≤ 32) && ((nmP l).length == l.length))) := by
  have h : l.all nb = ((nmP l).length == l.length) := by
    rw [Bool.eq_iff_iff, beq_iff_eq]
    constructor
    · intro h; exact nmP_all (p := l.length) (by rw [List.take_length]; exact h) (Nat.le_refl _) (.inl (Nat.le_refl _))
    · intro h
      have e := congrArg List.length (nmP_split l)
      rw [List.length_append] at e
      have e2 : nmQ l = [] := List.length_eq_zero_iff.1 (by omega)
      have e3 := nmP_split l
      rw [e2, List.append_nil] at e3
      exact List.all_eq_true.2 (fun b hb => nmP_nb l b (by rw [← e3]; exact hb))
  unfold isN
  rw [h, Bool.and_assoc]
set_option maxRecDepth 100000 in
theorem isname_walk (l : List UInt8) (hl : l.length ≤ 140737488355327) (w : World) :
    Calls Tryd.prog 53 #[.string (bs l)] w fun e w' => e = .returned (.bool (isN l)) ∧ w = w' := by
  by_cases h0 : l = []
  · subst h0
    go_enter Tryd.func53, Tryd.ntmps53
    go_wp2
    go_ret
    exact ⟨rfl, rfl⟩
  have hne : l.isEmpty = false := List.isEmpty_eq_false_iff.2 h0
  have hI := isN_is l
  rw [hne] at hI
  by_cases h1 : l.length ≤ 32
  · have HI := Lib.hid (show isN l = ((nmP l).length == l.length) by rw [hI]; simp [h1])
    have HW := Lib.hid (fun w1 => namelong_walk l hl w1)
    have h2 : ((l.length : Nat) : Int) ≤ 32 := by omega
    have h3 : ((((nmP l).length : Nat) : Int) == ((l.length : Nat) : Int)) = ((nmP l).length == l.length) := eqk _ _
    generalize (nmP l).length = N at *
    generalize (N == l.length) = B at *
    clear h0 hI h1
    go_enter Tryd.func53, Tryd.ntmps53
    go_wp2_with fail
    refine (HW.out _).mono ?_
    rintro e w1 ⟨rfl, rfl⟩
    go_wp2
    go_ret
    rw [HI.out]
    exact ⟨rfl, rfl⟩
  · have HI := Lib.hid (show isN l = false by rw [hI]; simp [h1])
    have h2 : ¬ ((l.length : Nat) : Int) ≤ 32 := by omega
    clear h0 hI h1
    go_enter Tryd.func53, Tryd.ntmps53
    go_wp2
    go_ret
    rw [HI.out]
    exact ⟨rfl, rfl⟩
end Go.Proofs.YtonippapkmmkeaaDoor
/- The document's name and value, walked. -/
namespace Go.Proofs.YtonippapkmmkeaaDoor
open Go.ChangeShapes Go.WideShapes Go.ChangeAt Go.RowKit K Q10
set_option linter.unusedVariables false

def stN (n : Nat) : Bool := n == 32 || n == 61 || n == 93 || n == 34
theorem u8k (b k : UInt8) : (b == k) = (b.toNat == k.toNat) := by
  rw [Bool.eq_iff_iff, beq_iff_eq, beq_iff_eq]; exact ⟨fun e => by rw [e], fun e => UInt8.toNat_inj.1 e⟩
theorem stp_of (b : UInt8) : stp b = stN b.toNat := by
  unfold stp stN
  rw [u8k b 32, u8k b 61, u8k b 93, u8k b 34]; rfl
theorem drop_at (l : List UInt8) (p : Nat) (h : p < l.length) : l.drop p = l.getD p 0 :: l.drop (p + 1) := by
  rw [List.drop_eq_getElem_cons h]; simp [List.getD, List.getElem?_eq_getElem h]
theorem nm_at {l : List UInt8} {p : Nat} (hp : p ≤ l.length) (ha : (l.take p).all (fun b => !stp b) = true) (hs : p < l.length → stN (byt l p) = true) : nmT l = l.take p ∧ nmR l = l.drop p := by
  have h := nm_app (n := l.take p) (r := l.drop p) (fun b hb => by
    have := List.all_eq_true.1 ha b hb
    simpa using this) (fun b hb => by
    by_cases h : p < l.length
    · rw [drop_at l p h] at hb
      simp only [List.head?_cons, Option.some.injEq] at hb
      rw [← hb, stp_of]; exact hs h
    · rw [List.drop_of_length_le (by omega)] at hb; cases hb)
  rw [List.take_append_drop] at h
  exact h
theorem nst_step (l : List UInt8) (p : Nat) (h : p < l.length) : (l.take (p + 1)).all (fun b => !stp b) = ((l.take p).all (fun b => !stp b) && !stN (byt l p)) := by
  rw [take_one l p h, List.all_append, ← byt_getD, ← stp_of]; simp
theorem st_four {n : Nat} (h : stN n = true) : n = 32 ∨ n = 61 ∨ n = 93 ∨ n = 34 := by
  unfold stN at h
  simp only [Bool.or_eq_true, beq_iff_eq] at h
  omega
theorem st_none {n : Nat} (h : stN n = false) : n ≠ 32 ∧ n ≠ 61 ∧ n ≠ 93 ∧ n ≠ 34 := by
  unfold stN at h
  simp only [Bool.or_eq_false_iff, beq_eq_false_iff_ne] at h
  omega
def NmRel (l : List UInt8) (w : World) (g : Nat) (v4 : Value) (wr : World) : Prop :=
  ∃ p, p + g = l.length ∧ (l.take p).all (fun b => !stp b) = true ∧ v4 = .int .i64 (p : Nat) ∧ Dr w wr
/-! ### Values -/
def vcs (out : List UInt8) : Option (List UInt8 × List UInt8) → Option (List UInt8 × List UInt8)
  | some (o, r) => some (out ++ o, r)
  | none => none
theorem vcs_nil (x : Option (List UInt8 × List UInt8)) : vcs [] x = x := by rcases x with _ | ⟨o, r⟩ <;> rfl
theorem vcs_vc (out : List UInt8) (b : UInt8) (x : Option (List UInt8 × List UInt8)) : vcs out (vc b x) = vcs (out ++ [b]) x := by
  rcases x with _ | ⟨o, r⟩
  · rfl
  · simp [vcs, vc]
def vlT (l : List UInt8) : List UInt8 := match vl l with | some (o, _) => o | none => []
def vlR (l : List UInt8) : List UInt8 := match vl l with | some (_, r) => r | none => []
def vlB (l : List UInt8) : Bool := (vl l).isSome
theorem vl_is {l o r : List UInt8} (h : vl l = some (o, r)) : vlT l = o ∧ vlR l = r ∧ vlB l = true := by unfold vlT vlR vlB; rw [h]; exact ⟨rfl, rfl, rfl⟩
theorem vl_not {l : List UInt8} (h : vl l = none) : vlT l = [] ∧ vlR l = [] ∧ vlB l = false := by unfold vlT vlR vlB; rw [h]; exact ⟨rfl, rfl, rfl⟩
/-- What stands at a place of a value. -/
inductive VlAt (l : List UInt8) (p : Nat) : Prop
  | fin (h : l.length ≤ p) (e : vl (l.drop p) = none)
  | quo (h : p < l.length) (hb : byt l p = 34) (e : vl (l.drop p) = some ([], l.drop (p + 1)))
  | brk (h : p < l.length) (hb : byt l p = 93) (e : vl (l.drop p) = none)
  | esc (h : p + 1 < l.length) (hb : byt l p = 92) (hs : spN (byt l (p + 1)) = true) (e : vl (l.drop p) = vc (l.getD (p + 1) 0) (vl (l.drop (p + 2))))
  | bsl (h : p + 1 < l.length) (hb : byt l p = 92) (hs : spN (byt l (p + 1)) = false) (e : vl (l.drop p) = vc (l.getD p 0) (vl (l.drop (p + 1))))
  | las (h : p < l.length) (h2 : l.length ≤ p + 1) (hb : byt l p = 92) (e : vl (l.drop p) = vc (l.getD p 0) (vl (l.drop (p + 1))))
  | byte (h : p < l.length) (h1 : byt l p ≠ 34) (h2 : byt l p ≠ 93) (h3 : byt l p ≠ 92) (e : vl (l.drop p) = vc (l.getD p 0) (vl (l.drop (p + 1))))
theorem getD_u8 {l : List UInt8} {p : Nat} {k : UInt8} : byt l p = k.toNat ↔ l.getD p 0 = k := by
  rw [← byt_getD]; exact UInt8.toNat_inj
theorem vl_all (l : List UInt8) (p : Nat) : VlAt l p := by
  by_cases h : p < l.length
  rotate_left
  · exact .fin (by omega) (by rw [List.drop_of_length_le (by omega)]; rfl)
  have hd := drop_at l p h
  by_cases b1 : byt l p = 34
  · have e : l.getD p 0 = 34 := getD_u8.1 b1
    exact .quo h b1 (by rw [hd, e, vl_end])
  by_cases b2 : byt l p = 93
  · have e : l.getD p 0 = 93 := getD_u8.1 b2
    exact .brk h b2 (by rw [hd, e, vl_no])
  have c1 : l.getD p 0 ≠ 34 := fun e => b1 (getD_u8.2 e)
  have c2 : l.getD p 0 ≠ 93 := fun e => b2 (getD_u8.2 e)
  by_cases b3 : byt l p = 92
  · have e3 : l.getD p 0 = 92 := getD_u8.1 b3
    by_cases h2 : p + 1 < l.length
    · have hd2 := drop_at l (p + 1) h2
      cases hs : spN (byt l (p + 1))
      · refine .bsl h2 b3 hs ?_
        rw [hd]
        refine vl_one c1 c2 (fun _ c q hq => ?_)
        rw [hd2] at hq
        injection hq with hq _
        rw [← hq, spc_of, byt_getD, hs]
      · refine .esc h2 b3 hs ?_
        rw [hd, hd2, e3]
        exact vl_esc1 (by rw [spc_of, byt_getD, hs]) _
    · refine .las h (by omega) b3 ?_
      rw [hd]
      refine vl_one c1 c2 (fun _ c q hq => ?_)
      rw [List.drop_of_length_le (by omega)] at hq; cases hq
  · refine .byte h b1 b2 b3 ?_
    rw [hd]
    exact vl_one c1 c2 (fun e => absurd (getD_u8.2 e) b3)
theorem cut2_run (l : List UInt8) (p : Nat) (h : p + 1 < l.length) : ∀ w, (Instr.slice 9 (.string (bs l)) (some (.int .i64 ((p : Int) + 1))) (some (.int .i64 ((p : Int) + 1 + 1))) none).run Tryd.prog w = .ok (.string (bs [l.getD (p + 1) 0])) w := by
  have := cut1_run l (p + 1) h
  rw [show (((p + 1 : Nat)) : Int) = (p : Int) + 1 by omega] at this
  exact this
def VlRel (l : List UInt8) (w : World) (g : Nat) (v5 v6 : Value) (wr : World) : Prop :=
  ∃ p out, p + g = l.length ∧ vl l = vcs out (vl (l.drop p)) ∧ out.length ≤ p ∧ v5 = .string (bs out) ∧ v6 = .int .i64 (p : Nat) ∧ Dr w wr
end Go.Proofs.YtonippapkmmkeaaDoor
