/- The document's Escape, member. -/
import Derived.Test.YtmhmipbbbccfgaaGlbP
import Derived.Test.YtmhmipbbbccfgaaBok
namespace Go.Proofs.Ytmhmipbbbccfgaa
open Go.ChangeShapes Go.WideShapes Go.ChangeAt Go.RowKit K G13
set_option linter.unusedVariables false

def sp13N (n : Nat) : Bool := n == 42 || n == 63 || n == 91 || n == 92
theorem sp13_of (b : UInt8) : sp13 b = sp13N b.toNat := by
  unfold sp13 sp13N
  have h : ∀ k : UInt8, (b == k) = (b.toNat == k.toNat) := fun k => by
    rw [Bool.eq_iff_iff, beq_iff_eq, beq_iff_eq]; exact ⟨fun e => by rw [e], fun e => UInt8.toNat_inj.1 e⟩
  rw [h 42, h 63, h 91, h 92]; rfl
theorem esc13_app : ∀ a b : List UInt8, esc13 (a ++ b) = esc13 a ++ esc13 b
  | [], b => rfl
  | x :: a, b => by
    rw [List.cons_append, esc13, esc13, esc13_app a b]; split <;> rfl
theorem gcut1_run (l : List UInt8) (p : Nat) (h : p < l.length) : ∀ w, (Instr.slice 9 (.string (bs l)) (some (.int .i64 (p : Nat))) (some (.int .i64 ((p : Int) + 1))) none).run Try.prog w = .ok (.string (bs [l.getD p 0])) w := by
  intro w
  rw [run_slice_string w 9 _ .i64 .i64 _ _ Try.underlying9 (by omega) (by omega) (by rw [bs_size]; omega)]
  rw [show ((p : Nat) : Int).toNat = p by omega, show ((p : Int) + 1).toNat = p + 1 by omega, bs_extract, Nat.add_sub_cancel_left]
  rw [List.drop_eq_getElem_cons h, List.take_succ_cons, List.take_zero]
  simp [List.getD, List.getElem?_eq_getElem h]
theorem gtake_one (l : List UInt8) (p : Nat) (h : p < l.length) : l.take (p + 1) = l.take p ++ [l.getD p 0] := by
  rw [List.take_add_one, List.getElem?_eq_getElem h]
  simp [List.getD, List.getElem?_eq_getElem h]
theorem esc13_step (l : List UInt8) (p : Nat) (h : p < l.length) : esc13 (l.take (p + 1)) = esc13 (l.take p) ++ (if sp13N (byt l p) then [92, l.getD p 0] else [l.getD p 0]) := by
  rw [gtake_one l p h, esc13_app, show byt l p = (l.getD p 0).toNat from rfl, ← sp13_of]
  congr 1
theorem esc13_le : ∀ s : List UInt8, (esc13 s).length ≤ 2 * s.length
  | [] => by simp [esc13]
  | b :: r => by
    have := esc13_le r
    rw [esc13]; split <;> simp only [List.length_cons] <;> omega
theorem sp13_cases (n : Nat) : (n = 42 ∨ n = 63 ∨ n = 91 ∨ n = 92) ∧ sp13N n = true ∨ (n ≠ 42 ∧ n ≠ 63 ∧ n ≠ 91 ∧ n ≠ 92) ∧ sp13N n = false := by
  cases h : sp13N n
  · unfold sp13N at h
    simp only [Bool.or_eq_false_iff, beq_eq_false_iff_ne] at h
    exact .inr ⟨by omega, rfl⟩
  · unfold sp13N at h
    simp only [Bool.or_eq_true, beq_iff_eq] at h
    exact .inl ⟨by omega, rfl⟩
def EsRel13 (l : List UInt8) (w : World) (g : Nat) (v3 v4 : Value) (wr : World) : Prop :=
  ∃ p, p + g = l.length ∧ v3 = .string (bs (esc13 (l.take p))) ∧ v4 = .int .i64 (p : Nat) ∧ Below w.heap.size w wr
set_option maxRecDepth 100000 in
set_option maxHeartbeats 1000000 in
theorem qescape13_walk (l : List UInt8) (hl : l.length ≤ 1000000) (w : World) :
    Calls Try.prog 14 #[.string (bs l)] w fun e w' => e = .returned (.string (bs (esc13 l))) ∧ Below w.heap.size w w' := by
  go_enter Try.func14, Try.ntmps14
  go_wp2
  go_loopg [3, 4] l.length (fun g v3 v4 wr => EsRel13 l w g v3 v4 wr)
  case atStart => exact ⟨0, by omega, rfl, rfl, Below.refl _ _⟩
  case round =>
    obtain ⟨p, hg, rfl, rfl, hd⟩ := hrel
    cases gk with
    | zero =>
      have HP := Lib.hid (show esc13 (l.take p) = esc13 l by rw [List.take_of_length_le (by omega)])
      have hp : l.length ≤ p := by omega
      go_wp2
      go_ret
      rw [HP.out]
      exact ⟨rfl, hd⟩
    | succ g =>
      have hp : p < l.length := by omega
      have HS := Lib.hid (esc13_step l p hp)
      have hE : (esc13 (l.take p)).length ≤ 2000000 := by
        have := esc13_le (l.take p); rw [List.length_take] at this; omega
      have hc := gcut1_run l p hp
      generalize esc13 (l.take p) = E at *
      generalize l.getD p 0 = x at *
      have hlit : bs E ++ ({ data := #[92] } : ByteArray) = bs (E ++ [92]) := bs_append E [92]
      have hE2 : (E ++ [92]).length ≤ 2000001 := by rw [List.length_append]; simp; omega
      rcases sp13_cases (byt l p) with ⟨h, hs⟩ | ⟨⟨n1, n2, n3, n4⟩, hs⟩
      · rw [hs] at HS
        clear hs
        have tail : ∀ (h2 : byt l p = 42 ∨ byt l p ≠ 42 ∧ (byt l p = 63 ∨ byt l p ≠ 63 ∧ (byt l p = 91 ∨ byt l p ≠ 91 ∧ byt l p = 92))), True := fun _ => trivial
        clear tail
        by_cases c1 : byt l p = 42
        · go_wp2
          go_roundg g
          case measure => omega
          case rel => exact ⟨p + 1, by omega, by rw [HS.out]; simp, by simp, hd⟩
        · by_cases c2 : byt l p = 63
          · go_wp2
            go_roundg g
            case measure => omega
            case rel => exact ⟨p + 1, by omega, by rw [HS.out]; simp, by simp, hd⟩
          · by_cases c3 : byt l p = 91
            · go_wp2
              go_roundg g
              case measure => omega
              case rel => exact ⟨p + 1, by omega, by rw [HS.out]; simp, by simp, hd⟩
            · have c4 : byt l p = 92 := by omega
              go_wp2
              go_roundg g
              case measure => omega
              case rel => exact ⟨p + 1, by omega, by rw [HS.out]; simp, by simp, hd⟩
      · rw [hs] at HS
        clear hs
        have m1 : (((byt l p : Nat) : Int) == 42) = false := by rw [beq_eq_false_iff_ne]; omega
        have m2 : (((byt l p : Nat) : Int) == 63) = false := by rw [beq_eq_false_iff_ne]; omega
        have m3 : (((byt l p : Nat) : Int) == 91) = false := by rw [beq_eq_false_iff_ne]; omega
        have m4 : (((byt l p : Nat) : Int) == 92) = false := by rw [beq_eq_false_iff_ne]; omega
        clear n1 n2 n3 n4
        go_wp2
        go_roundg g
        case measure => omega
        case rel => exact ⟨p + 1, by omega, by rw [HS.out]; rfl, by simp, hd⟩
end Go.Proofs.Ytmhmipbbbccfgaa
