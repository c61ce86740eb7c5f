/- The document's special, Escape and IsName, walked. -/
import Derived.Test.YtkpcfbadhoiigaaDoorQuoP
import Derived.Test.YtkpcfbadhoiigaaDoorUtfB
namespace Go.Proofs.YtkpcfbadhoiigaaDoor
open Go.ChangeShapes Go.WideShapes Go.ChangeAt Go.RowKit K Q10
set_option linter.unusedVariables false

def spN (n : Nat) : Bool := n == 34 || n == 92 || n == 93
theorem spc_of (b : UInt8) : spc b = spN b.toNat := by
  unfold spc spN
  have h : ∀ k : UInt8, (b == k) = (b.toNat == k.toNat) := fun k => by
    rw [Bool.eq_iff_iff, beq_iff_eq, beq_iff_eq]; exact ⟨fun e => by rw [e], fun e => UInt8.toNat_inj.1 e⟩
  rw [h 34, h 92, h 93]; rfl
theorem eqk (n k : Nat) : (((n : Nat) : Int) == ((k : Nat) : Int)) = (n == k) := by
  rw [Bool.eq_iff_iff, beq_iff_eq, beq_iff_eq]; omega
theorem qspecial_walk (n : Nat) (w : World) :
    Calls Tryd.prog 37 #[.int .u8 (n : Nat)] w fun e w' => e = .returned (.bool (spN n)) ∧ w = w' := by
  have e1 : (((n : Nat) : Int) == 34) = (n == 34) := eqk n 34
  have e2 : (((n : Nat) : Int) == 92) = (n == 92) := eqk n 92
  have e3 : (((n : Nat) : Int) == 93) = (n == 93) := eqk n 93
  have HS := Lib.hid (show spN n = (n == 34 || n == 92 || n == 93) from rfl)
  generalize spN n = S at *
  generalize (n == 34) = x1 at *
  generalize (n == 92) = x2 at *
  generalize (n == 93) = x3 at *
  cases x1 <;> cases x2 <;> cases x3
  all_goals
    go_enter Tryd.func37, Tryd.ntmps37
    go_wp2
    go_ret
    rw [HS.out]
    exact ⟨rfl, rfl⟩
theorem cut1_run (l : List UInt8) (p : Nat) (h : p < l.length) : ∀ w, (Instr.slice 9 (.string (bs l)) (some (.int .i64 (p : Nat))) (some (.int .i64 ((p : Int) + 1))) none).run Tryd.prog w = .ok (.string (bs [l.getD p 0])) w := by
  intro w
  rw [run_slice_string w 9 _ .i64 .i64 _ _ Tryd.underlying9 (by omega) (by omega) (by rw [bs_size]; omega)]
  rw [show ((p : Nat) : Int).toNat = p by omega, show ((p : Int) + 1).toNat = p + 1 by omega, bs_extract, Nat.add_sub_cancel_left]
  rw [List.drop_eq_getElem_cons h, List.take_succ_cons, List.take_zero]
  simp [List.getD, List.getElem?_eq_getElem h]
theorem take_one (l : List UInt8) (p : Nat) (h : p < l.length) : l.take (p + 1) = l.take p ++ [l.getD p 0] := by
  rw [List.take_add_one, List.getElem?_eq_getElem h]
  simp [List.getD, List.getElem?_eq_getElem h]
theorem byt_getD (l : List UInt8) (p : Nat) : (l.getD p 0).toNat = byt l p := rfl
theorem esc_step (l : List UInt8) (p : Nat) (h : p < l.length) : esc (l.take (p + 1)) = esc (l.take p) ++ (if spN (byt l p) then [92, l.getD p 0] else [l.getD p 0]) := by
  rw [take_one l p h, esc_app, ← byt_getD, ← spc_of]
  congr 1
def EsRel (l : List UInt8) (w : World) (g : Nat) (v3 v4 : Value) (wr : World) : Prop :=
  ∃ p, p + g = l.length ∧ v3 = .string (bs (esc (l.take p))) ∧ v4 = .int .i64 (p : Nat) ∧ Dr w wr
set_option maxRecDepth 100000 in
theorem qescape_walk (l : List UInt8) (hl : l.length ≤ 1000000000) (w : World) :
    Calls Tryd.prog 15 #[.string (bs l)] w fun e w' => e = .returned (.string (bs (esc l))) ∧ Dr w w' := by
  go_enter Tryd.func15, Tryd.ntmps15
  go_wp2
  go_loopg [3, 4] l.length (fun g v3 v4 wr => EsRel l w g v3 v4 wr)
  case atStart => exact ⟨0, by omega, rfl, rfl, Dr.refl w⟩
  case round =>
    obtain ⟨p, hg, rfl, rfl, hd⟩ := hrel
    cases gk with
    | zero =>
      have HP := Lib.hid (show esc (l.take p) = esc l by rw [List.take_of_length_le (by omega)])
      have hp : l.length ≤ p := by omega
      go_wp2
      go_ret
      rw [HP.out]
      exact ⟨rfl, hd⟩
    | succ g =>
      have hp : p < l.length := by omega
      have HS := Lib.hid (esc_step l p hp)
      have hE : (esc (l.take p)).length ≤ 2000000000 := by
        have := esc_le (l.take p); rw [List.length_take] at this; omega
      have HSP := Lib.hid (fun w1 => qspecial_walk (byt l p) w1)
      have hc := cut1_run l p hp
      generalize esc (l.take p) = E at *
      generalize l.getD p 0 = x at *
      cases hs : spN (byt l p)
      · rw [hs] at HSP HS
        clear hs
        go_wp2_with fail
        refine (HSP.out _).mono ?_
        rintro e w1 ⟨rfl, rfl⟩
        go_wp2
        go_roundg g
        case measure => omega
        case rel => exact ⟨p + 1, by omega, by rw [HS.out]; rfl, by simp, hd⟩
      · rw [hs] at HSP HS
        clear hs
        have hlit : bs E ++ ({ data := #[92] } : ByteArray) = bs (E ++ [92]) := bs_append E [92]
        go_wp2_with fail
        refine (HSP.out _).mono ?_
        rintro e w1 ⟨rfl, rfl⟩
        go_wp2
        go_roundg g
        case measure => omega
        case rel => exact ⟨p + 1, by omega, by rw [HS.out]; simp, by simp, hd⟩
/-! ### Names -/
def nbN (n : Nat) : Bool := decide (33 ≤ n) && decide (n ≤ 126) && !(n == 61) && !(n == 93) && !(n == 34)
theorem nb_of (b : UInt8) : nb b = nbN b.toNat := by
  unfold nb nbN
  have h : ∀ k : UInt8, (b == k) = (b.toNat == k.toNat) := fun k => by
    rw [Bool.eq_iff_iff, beq_iff_eq, beq_iff_eq]; exact ⟨fun e => by rw [e], fun e => UInt8.toNat_inj.1 e⟩
  rw [h 61, h 93, h 34]; rfl
theorem all_step (l : List UInt8) (p : Nat) (h : p < l.length) : (l.take (p + 1)).all nb = ((l.take p).all nb && nbN (byt l p)) := by
  rw [take_one l p h, List.all_append, ← byt_getD, ← nb_of]; simp
theorem isN_yes {l : List UInt8} (h0 : l ≠ []) (h1 : l.length ≤ 32) (h : (l.take l.length).all nb = true) : isN l = true := by
  rw [List.take_length] at h
  unfold isN
  rw [h]
  simp [h0, h1]
theorem isN_no {l : List UInt8} {p : Nat} (hp : p < l.length) (h : nbN (byt l p) = false) : isN l = false := by
  cases hi : isN l
  · rfl
  · exfalso
    unfold isN at hi
    simp only [Bool.and_eq_true, List.all_eq_true] at hi
    have := hi.2 (l.getD p 0) (by rw [List.getD_eq_getElem?_getD, List.getElem?_eq_getElem hp]; exact List.getElem_mem hp)
    rw [nb_of, byt_getD, h] at this
    cases this
def NaRel (l : List UInt8) (w : World) (g : Nat) (v3 : Value) (wr : World) : Prop :=
  ∃ p, p + g = l.length ∧ (l.take p).all nb = true ∧ v3 = .int .i64 (p : Nat) ∧ Dr w wr
set_option maxRecDepth 100000 in
theorem qisname_walk (l : List UInt8) (hl : l.length ≤ 140737488351232) (w : World) :
    Calls Tryd.prog 13 #[.string (bs l)] w fun e w' => e = .returned (.bool (isN l)) ∧ Dr w w' := by
  by_cases h0 : l = []
  · subst h0
    go_enter Tryd.func13, Tryd.ntmps13
    go_wp2
    go_ret
    exact ⟨rfl, Dr.refl w⟩
  by_cases h1 : l.length ≤ 32
  rotate_left
  · have HI := Lib.hid (show isN l = false by unfold isN; simp [h1])
    have hne : l.isEmpty = false := List.isEmpty_eq_false_iff.2 h0
    have h2 : (32 : Int) < (l.length : Nat) := by omega
    clear h0 h1
    go_enter Tryd.func13, Tryd.ntmps13
    go_wp2
    go_ret
    rw [HI.out]
    exact ⟨rfl, Dr.refl w⟩
  have hne : l.isEmpty = false := List.isEmpty_eq_false_iff.2 h0
  have HY := Lib.hid (fun h => isN_yes h0 h1 h)
  have HN := Lib.hid (fun p (hp : p < l.length) h => isN_no hp h)
  have h2 : ¬ (32 : Int) < (l.length : Nat) := by omega
  clear h0
  go_enter Tryd.func13, Tryd.ntmps13
  go_wp2
  go_loopg [3] l.length (fun g v3 wr => NaRel l w g v3 wr)
  case atStart => exact ⟨0, by omega, rfl, rfl, Dr.refl w⟩
  case round =>
    obtain ⟨p, hg, ha, rfl, hd⟩ := hrel
    cases gk with
    | zero =>
      have hp : l.length ≤ p := by omega
      have HI := Lib.hid (HY.out (by rw [← show p = l.length by omega]; exact ha))
      clear ha
      go_wp2
      go_ret
      rw [HI.out]
      exact ⟨rfl, hd⟩
    | succ g =>
      have hp : p < l.length := by omega
      have HA := Lib.hid (all_step l p hp)
      have HAA := Lib.hid ha
      have HNp := Lib.hid (HN.out p hp)
      clear ha
      generalize hb : byt l p = n at *
      have e1 : (((n : Nat) : Int) == 61) = (n == 61) := eqk n 61
      have e2 : (((n : Nat) : Int) == 93) = (n == 93) := eqk n 93
      have e3 : (((n : Nat) : Int) == 34) = (n == 34) := eqk n 34
      cases hs : nbN n
      · have HI := Lib.hid (HNp.out hs)
        have HS := Lib.hid hs
        by_cases q1 : n < 33
        · have q2 : (n : Int) < 33 := by omega
          clear hs e1 e2 e3
          go_wp2
          go_ret
          rw [HI.out]
          exact ⟨rfl, hd⟩
        have q1' : ¬ (n : Int) < 33 := by omega
        by_cases q2 : 126 < n
        · have q3 : (126 : Int) < n := by omega
          clear hs e1 e2 e3
          go_wp2
          go_ret
          rw [HI.out]
          exact ⟨rfl, hd⟩
        have q2' : ¬ (126 : Int) < n := by omega
        have q3 : (n == 61 || n == 93 || n == 34) = true := by
          have := HS.out
          unfold nbN at this
          rw [show decide (33 ≤ n) = true by simp; omega, show decide (n ≤ 126) = true by simp; omega] at this
          revert this
          cases n == 61 <;> cases n == 93 <;> cases n == 34 <;> simp
        have HQ := Lib.hid q3
        clear hs q3
        generalize (n == 61) = x1 at *
        generalize (n == 93) = x2 at *
        generalize (n == 34) = x3 at *
        cases x1
        · cases x2
          · cases x3
            · exact absurd HQ.out (by simp)
            · go_wp2
              go_ret
              rw [HI.out]
              exact ⟨rfl, hd⟩
          · go_wp2
            go_ret
            rw [HI.out]
            exact ⟨rfl, hd⟩
        · go_wp2
          go_ret
          rw [HI.out]
          exact ⟨rfl, hd⟩
      · have hs2 := hs
        unfold nbN at hs2
        simp only [Bool.and_eq_true, decide_eq_true_eq, Bool.not_eq_true'] at hs2
        obtain ⟨⟨⟨⟨q1, q2⟩, q3⟩, q4⟩, q5⟩ := hs2
        rw [q3] at e1
        rw [q4] at e2
        rw [q5] at e3
        have q1' : ¬ (n : Int) < 33 := by omega
        have q2' : ¬ (126 : Int) < n := by omega
        have HB := Lib.hid (show (l.take (p + 1)).all nb = true by rw [HA.out, HAA.out, hs]; rfl)
        clear hs q3 q4 q5
        go_wp2
        go_roundg g
        case measure => omega
        case rel => exact ⟨p + 1, by omega, HB.out, by simp, hd⟩
end Go.Proofs.YtkpcfbadhoiigaaDoor
