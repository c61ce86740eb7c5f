/- The document's head of a stream, walked. -/
import Derived.Test.YtndinelljmjfaaaDoorFrmP
import Derived.Test.YtndinelljmjfaaaDoorUtfB
namespace Go.Proofs.YtndinelljmjfaaaDoor
open Go.ChangeShapes Go.WideShapes Go.ChangeAt Go.RowKit K F12
set_option linter.unusedVariables false

/-- What head answers. -/
def hdA : Hd → Int
  | .bad => -2
  | .more => -1
  | .num n _ _ => n
def hdK : Hd → Nat
  | .num _ k _ => k
  | _ => 0
theorem hd_at (most : Nat) (l : List UInt8) (p n : Nat) (hp : p < l.length) : hd most (l.drop p) n p =
    if byt l p = 32 ∧ 0 < p then .num n (p + 1) (l.drop (p + 1))
    else if byt l p < 48 ∨ 57 < byt l p ∨ (p = 0 ∧ byt l p = 48) then .bad
    else if most < n * 10 + (byt l p - 48) then .bad
    else hd most (l.drop (p + 1)) (n * 10 + (byt l p - 48)) (p + 1) := by
  have e : l.drop p = l[p] :: l.drop (p + 1) := List.drop_eq_getElem_cons hp
  have hb : byt l p = (l[p]).toNat := by unfold byt; rw [List.getElem?_eq_getElem hp]; rfl
  have h32 : (l[p] = 32) = ((l[p]).toNat = 32) := by rw [eq_iff_iff]; exact ⟨fun e => by rw [e]; rfl, fun e => UInt8.toNat_inj.1 e⟩
  have h48 : (l[p] = 48) = ((l[p]).toNat = 48) := by rw [eq_iff_iff]; exact ⟨fun e => by rw [e]; rfl, fun e => UInt8.toNat_inj.1 e⟩
  have hlt : (l[p] < 48) = ((l[p]).toNat < 48) := by rw [UInt8.lt_iff_toNat_lt]; rfl
  have hgt : (57 < l[p]) = (57 < (l[p]).toNat) := by rw [UInt8.lt_iff_toNat_lt]; rfl
  rw [e, hd, hb]
  simp only [h32, h48, hlt, hgt]
theorem hd_end (most : Nat) (l : List UInt8) (p n : Nat) (hp : l.length ≤ p) : hd most (l.drop p) n p = .more := by
  rw [List.drop_eq_nil_of_le hp]; rfl
def HdRel (l : List UInt8) (most : Nat) (w : World) (g : Nat) (v4 v5 : Value) (wr : World) : Prop :=
  ∃ p n, p + g = l.length ∧ v4 = .int .i64 (n : Nat) ∧ v5 = .int .i64 (p : Nat) ∧ n ≤ most ∧ hd most l 0 0 = hd most (l.drop p) n p ∧ Dr w wr
set_option maxRecDepth 100000 in
set_option maxHeartbeats 1000000 in
theorem qhead_walk (l : List UInt8) (hl : l.length ≤ 140737488351232) (most : Nat) (hm : most ≤ 65535) (w : World) :
    Calls Tryd.prog 28 #[.string (bs l), .int .i64 (most : Nat)] w fun e w' => e = .returned (.tuple #[.int .i64 (hdA (hd most l 0 0)), .int .i64 (hdK (hd most l 0 0) : Nat)]) ∧ Dr w w' := by
  go_enter Tryd.func28, Tryd.ntmps28
  go_wp2
  go_loopg [6, 7] l.length (fun g v6 v7 wr => HdRel l most w g v6 v7 wr)
  case atStart => exact ⟨0, 0, by omega, rfl, rfl, by omega, rfl, Dr.refl w⟩
  case round =>
    obtain ⟨p, n, hg, rfl, rfl, hn, hh, hd'⟩ := hrel
    cases gk with
    | zero =>
      have hp : l.length ≤ p := by omega
      have HH := Lib.hid (hh.trans (hd_end most l p n hp))
      clear hh
      go_wp2
      go_ret2
      rw [HH.out]
      exact ⟨rfl, hd'⟩
    | succ g =>
      have hp : p < l.length := by omega
      have HH := Lib.hid (hh.trans (hd_at most l p n hp))
      have hc256 := byt_lt l p
      clear hh
      generalize hb : byt l p = c at *
      by_cases hA : c = 32 ∧ 0 < p
      · have HR := Lib.hid (HH.out.trans (if_pos hA))
        obtain ⟨rfl, hp0⟩ := hA
        have hp0' : (0 : Int) < (p : Nat) := by omega
        clear HH hp0
        go_wp2
        go_ret2
        rw [HR.out]
        exact ⟨rfl, hd'⟩
      have H2 := Lib.hid (HH.out.trans (if_neg hA))
      clear HH
      by_cases hB : c < 48 ∨ 57 < c ∨ (p = 0 ∧ c = 48)
      · have HR := Lib.hid (H2.out.trans (if_pos hB))
        clear H2
        rcases hB with hB | hB | ⟨rfl, rfl⟩
        · by_cases h32 : c = 32
          · subst h32
            obtain rfl : p = 0 := by omega
            clear hA hB
            go_wp2
            go_ret2
            rw [HR.out]
            exact ⟨rfl, hd'⟩
          · have e32 : (((c : Nat) : Int) == 32) = false := by rw [beq_eq_false_iff_ne]; omega
            have hB' : ((c : Nat) : Int) < 48 := by omega
            clear hA hB h32
            go_wp2
            go_ret2
            rw [HR.out]
            exact ⟨rfl, hd'⟩
        · have e32 : (((c : Nat) : Int) == 32) = false := by rw [beq_eq_false_iff_ne]; omega
          have hB' : (57 : Int) < ((c : Nat) : Int) := by omega
          have hB2 : ¬ ((c : Nat) : Int) < 48 := by omega
          clear hA hB
          go_wp2
          go_ret2
          rw [HR.out]
          exact ⟨rfl, hd'⟩
        · clear hA
          go_wp2
          go_ret2
          rw [HR.out]
          exact ⟨rfl, hd'⟩
      have H3 := Lib.hid (H2.out.trans (if_neg hB))
      clear H2
      have e32 : (((c : Nat) : Int) == 32) = false := by rw [beq_eq_false_iff_ne]; omega
      have hB2 : ¬ ((c : Nat) : Int) < 48 := by omega
      have hB3 : ¬ (57 : Int) < ((c : Nat) : Int) := by omega
      have hz : (((p : Nat) : Int) == 0) = false ∨ (((p : Nat) : Int) == 0) = true ∧ (((c : Nat) : Int) == 48) = false := by
        by_cases h0 : p = 0
        · right; exact ⟨by rw [beq_iff_eq]; omega, by rw [beq_eq_false_iff_ne]; omega⟩
        · left; rw [beq_eq_false_iff_ne]; omega
      have hsub : IntKind.u8.wrap (((c : Nat) : Int) - 48) = ((c - 48 : Nat) : Int) := by simp [IntKind.wrap, IntKind.signed, IntKind.bits]; omega
      have hcv : IntKind.i64.wrap ((c - 48 : Nat) : Int) = ((c - 48 : Nat) : Int) := IntWalk.i64_in _ (by omega)
      have hmul : IntKind.i64.wrap (((n : Nat) : Int) * 10) = ((n * 10 : Nat) : Int) := by rw [IntWalk.i64_in _ (by omega)]; omega
      have hsum : IntKind.i64.wrap (((n * 10 : Nat) : Int) + ((c - 48 : Nat) : Int)) = ((n * 10 + (c - 48) : Nat) : Int) := by rw [IntWalk.i64_in _ (by omega)]; omega
      clear hA hB
      generalize hd10 : c - 48 = d at *
      generalize hn10 : n * 10 = n10 at *
      by_cases hC : most < n10 + d
      · have HR := Lib.hid (H3.out.trans (if_pos hC))
        have hC' : ((most : Nat) : Int) < ((n10 + d : Nat) : Int) := by omega
        clear H3 hC
        rcases hz with hz | ⟨hz, hz2⟩
        all_goals
          go_wp2
          go_ret2
          rw [HR.out]
          exact ⟨rfl, hd'⟩
      · have HR := Lib.hid (H3.out.trans (if_neg hC))
        have hC' : ¬ ((most : Nat) : Int) < ((n10 + d : Nat) : Int) := by omega
        clear H3
        rcases hz with hz | ⟨hz, hz2⟩
        all_goals
          go_wp2
          go_roundg g
          case measure => omega
          case rel => exact ⟨p + 1, n10 + d, by omega, rfl, by simp, by omega, HR.out, hd'⟩
end Go.Proofs.YtndinelljmjfaaaDoor
