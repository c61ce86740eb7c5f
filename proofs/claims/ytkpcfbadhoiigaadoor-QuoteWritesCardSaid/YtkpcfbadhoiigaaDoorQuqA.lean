/- The program's inNames, nameLong, IsName and isEscaped, walked. -/
import Derived.Test.YtkpcfbadhoiigaaDoorQuoA
import Derived.Test.YtkpcfbadhoiigaaDoorQuqP
namespace Go.Proofs.YtkpcfbadhoiigaaDoor
open Go.ChangeShapes Go.WideShapes Go.ChangeAt Go.RowKit K Q10
set_option linter.unusedVariables false

theorem innames_walk (n : Nat) (w : World) :
    Calls Tryd.prog 58 #[.int .u8 (n : Nat)] w fun e w' => e = .returned (.bool (nbN n)) ∧ w = w' := by
  have HS := Lib.hid (show nbN n = (decide (33 ≤ n) && decide (n ≤ 126) && !(n == 61) && !(n == 93) && !(n == 34)) from rfl)
  by_cases h1 : n = 61
  · subst h1
    go_enter Tryd.func58, Tryd.ntmps58
    go_wp2
    go_ret
    exact ⟨rfl, rfl⟩
  by_cases h2 : n = 93
  · subst h2
    go_enter Tryd.func58, Tryd.ntmps58
    go_wp2
    go_ret
    exact ⟨rfl, rfl⟩
  by_cases h3 : n = 34
  · subst h3
    go_enter Tryd.func58, Tryd.ntmps58
    go_wp2
    go_ret
    exact ⟨rfl, rfl⟩
  have e1 : (((n : Nat) : Int) == 61) = false := by rw [beq_eq_false_iff_ne]; omega
  have e2 : (((n : Nat) : Int) == 93) = false := by rw [beq_eq_false_iff_ne]; omega
  have e3 : (((n : Nat) : Int) == 34) = false := by rw [beq_eq_false_iff_ne]; omega
  by_cases h4 : n < 33
  · have HN := Lib.hid (show nbN n = false by rw [HS.out]; simp; omega)
    have e4 : ((n : Nat) : Int) < 33 := by omega
    clear h1 h2 h3 h4
    go_enter Tryd.func58, Tryd.ntmps58
    go_wp2
    go_ret
    rw [HN.out]
    exact ⟨rfl, rfl⟩
  have e4 : ¬ ((n : Nat) : Int) < 33 := by omega
  by_cases h5 : 126 < n
  · have HN := Lib.hid (show nbN n = false by rw [HS.out]; simp; omega)
    have e5 : (126 : Int) < ((n : Nat) : Int) := by omega
    clear h1 h2 h3 h4 h5
    go_enter Tryd.func58, Tryd.ntmps58
    go_wp2
    go_ret
    rw [HN.out]
    exact ⟨rfl, rfl⟩
  have HN := Lib.hid (show nbN n = true by rw [HS.out]; simp [h1, h2, h3]; omega)
  have e5 : ¬ (126 : Int) < ((n : Nat) : Int) := by omega
  clear h1 h2 h3 h4 h5
  go_enter Tryd.func58, Tryd.ntmps58
  go_wp2
  go_ret
  rw [HN.out]
  exact ⟨rfl, rfl⟩
theorem isescaped_walk (n : Nat) (w : World) :
    Calls Tryd.prog 34 #[.int .u8 (n : Nat)] w fun e w' => e = .returned (.bool (spN n)) ∧ w = w' := by
  have e1 : (((n : Nat) : Int) == 34) = (n == 34) := eqk n 34
  have e2 : (((n : Nat) : Int) == 92) = (n == 92) := eqk n 92
  have e3 : (((n : Nat) : Int) == 93) = (n == 93) := eqk n 93
  have HS := Lib.hid (show spN n = (n == 34 || n == 92 || n == 93) from rfl)
  generalize spN n = S at *
  generalize (n == 34) = x1 at *
  generalize (n == 92) = x2 at *
  generalize (n == 93) = x3 at *
  cases x1 <;> cases x2 <;> cases x3
  all_goals
    go_enter Tryd.func34, Tryd.ntmps34
    go_wp2
    go_ret
    rw [HS.out]
    exact ⟨rfl, rfl⟩
/-! ### How long a name is -/
theorem nmP_all {l : List UInt8} {p : Nat} (h : (l.take p).all nb = true) (hp : p ≤ l.length) (hn : l.length ≤ p ∨ nbN (byt l p) = false) : (nmP l).length = p := by
  have hk := nmP_ok (n := l.take p) (r := l.drop p) (List.all_eq_true.1 h) (fun b t e => by
    rcases hn with hn | hn
    · rw [List.drop_eq_nil_of_le hn] at e; cases e
    · by_cases hlt : p < l.length
      · rw [List.drop_eq_getElem_cons hlt] at e
        injection e with e _
        rw [← e, nb_of, show l[p].toNat = byt l p by rw [← byt_getD]; simp [List.getD, List.getElem?_eq_getElem hlt]]
        exact hn
      · rw [List.drop_eq_nil_of_le (by omega)] at e; cases e)
  rw [List.take_append_drop] at hk
  rw [hk.1, List.length_take]; omega
def NlRel (l : List UInt8) (w : World) (g : Nat) (v3 v6 : Value) (wr : World) : Prop :=
  ∃ p, p + g = l.length ∧ (l.take p).all nb = true ∧ v6 = .int .i64 (p : Nat) ∧ w = wr
set_option maxRecDepth 100000 in
theorem namelong_walk (l : List UInt8) (hl : l.length ≤ 140737488355327) (w : World) :
    Calls Tryd.prog 33 #[.string (bs l)] w fun e w' => e = .returned (.int .i64 ((nmP l).length : Nat)) ∧ w = w' := by
  go_enter Tryd.func33, Tryd.ntmps33
  go_wp2
  go_loopg [3, 6] l.length (fun g v3 v6 wr => NlRel l w g v3 v6 wr)
  case atStart => exact ⟨0, by omega, rfl, rfl, rfl⟩
  case round =>
    obtain ⟨p, hg, ha, rfl, rfl⟩ := hrel
    cases gk with
    | zero =>
      have hp : l.length ≤ p := by omega
      have HP := Lib.hid (nmP_all ha (by omega) (.inl hp))
      have HE := Lib.hid (show l.length = p by omega)
      clear ha
      go_wp2
      go_ret
      rw [HP.out, HE.out]
      exact ⟨rfl, rfl⟩
    | succ g =>
      have hp : p < l.length := by omega
      have HA := Lib.hid (all_step l p hp)
      have HNO := Lib.hid (fun h => nmP_all ha (by omega) (.inr h))
      have HI := Lib.hid (fun w1 => innames_walk (byt l p) w1)
      have HAA := Lib.hid ha
      clear ha
      cases hb : nbN (byt l p)
      · rw [hb] at HI
        have HP := Lib.hid (HNO.out hb)
        clear hb
        go_wp2_with fail
        refine (HI.out _).mono ?_
        rintro e w1 ⟨rfl, rfl⟩
        go_wp2
        go_ret
        rw [HP.out]
        exact ⟨rfl, rfl⟩
      · have HS := Lib.hid (show (l.take (p + 1)).all nb = true by rw [HA.out, HAA.out, hb]; rfl)
        rw [hb] at HI
        clear hb
        go_wp2_with fail
        refine (HI.out _).mono ?_
        rintro e w1 ⟨rfl, rfl⟩
        go_wp2
        go_roundg g
        case measure => omega
        case rel => exact ⟨p + 1, by omega, HS.out, by simp, rfl⟩
theorem isN_is (l : List UInt8) : isN l = (!l.isEmpty && (decide (l.length ≤ 32) && ((nmP l).length == l.length))) := by
  have h : l.all nb = ((nmP l).length == l.length) := by
    rw [Bool.eq_iff_iff, beq_iff_eq]
    constructor
    · intro h; exact nmP_all (p := l.length) (by rw [List.take_length]; exact h) (Nat.le_refl _) (.inl (Nat.le_refl _))
    · intro h
      have e := congrArg List.length (nmP_split l)
      rw [List.length_append] at e
      have e2 : nmQ l = [] := List.length_eq_zero_iff.1 (by omega)
      have e3 := nmP_split l
      rw [e2, List.append_nil] at e3
      exact List.all_eq_true.2 (fun b hb => nmP_nb l b (by rw [← e3]; exact hb))
  unfold isN
  rw [h, Bool.and_assoc]
set_option maxRecDepth 100000 in
theorem isname_walk (l : List UInt8) (hl : l.length ≤ 140737488355327) (w : World) :
    Calls Tryd.prog 12 #[.string (bs l)] w fun e w' => e = .returned (.bool (isN l)) ∧ w = w' := by
  by_cases h0 : l = []
  · subst h0
    go_enter Tryd.func12, Tryd.ntmps12
    go_wp2
    go_ret
    exact ⟨rfl, rfl⟩
  have hne : l.isEmpty = false := List.isEmpty_eq_false_iff.2 h0
  have hI := isN_is l
  rw [hne] at hI
  by_cases h1 : l.length ≤ 32
  · have HI := Lib.hid (show isN l = ((nmP l).length == l.length) by rw [hI]; simp [h1])
    have HW := Lib.hid (fun w1 => namelong_walk l hl w1)
    have h2 : ((l.length : Nat) : Int) ≤ 32 := by omega
    have h3 : ((((nmP l).length : Nat) : Int) == ((l.length : Nat) : Int)) = ((nmP l).length == l.length) := eqk _ _
    generalize (nmP l).length = N at *
    generalize (N == l.length) = B at *
    clear h0 hI h1
    go_enter Tryd.func12, Tryd.ntmps12
    go_wp2_with fail
    refine (HW.out _).mono ?_
    rintro e w1 ⟨rfl, rfl⟩
    go_wp2
    go_ret
    rw [HI.out]
    exact ⟨rfl, rfl⟩
  · have HI := Lib.hid (show isN l = false by rw [hI]; simp [h1])
    have h2 : ¬ ((l.length : Nat) : Int) ≤ 32 := by omega
    clear h0 hI h1
    go_enter Tryd.func12, Tryd.ntmps12
    go_wp2
    go_ret
    rw [HI.out]
    exact ⟨rfl, rfl⟩
end Go.Proofs.YtkpcfbadhoiigaaDoor
