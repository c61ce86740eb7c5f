/- The program's reader of structured data, walked: cut, took, mark, name. -/
import Derived.Test.YtkpcfbadhoiigaaDoorQuqA
namespace Go.Proofs.YtkpcfbadhoiigaaDoor
open Go.ChangeShapes Go.WideShapes Go.ChangeAt Go.RowKit K Q10
set_option linter.unusedVariables false

/-- A reader in block b: what is left, and whether it is dead. -/
def RQ (w : World) (b : Nat) (s : List UInt8) (g : Bool) : Prop := w.heap[b]? = some (.cells #[.string (bs s), .bool g] 50 (0, 0))
theorem RQ.cells {w : World} {b : Nat} {s : List UInt8} {g : Bool} (h : RQ w b s g) :
    w.cell? ⟨b, 0, none⟩ = some (.string (bs s)) ∧ w.cell? ⟨b, 1, none⟩ = some (.bool g) ∧ w.frozen? ⟨b, 0, none⟩ = false ∧ w.frozen? ⟨b, 1, none⟩ = false :=
  ⟨cellRow h 0, cellRow h 1, freeRow h 0, freeRow h 1⟩
theorem RQ.set0 {w : World} {b : Nat} {s : List UInt8} {g : Bool} (h : RQ w b s g) (t : List UInt8) : RQ (w.setCell ⟨b, 0, none⟩ (.string (bs t))) b t g := by
  have := rowSet h 0 (.string (bs t)); simpa [RQ] using this
theorem RQ.set1 {w : World} {b : Nat} {s : List UInt8} {g : Bool} (h : RQ w b s g) (t : Bool) : RQ (w.setCell ⟨b, 1, none⟩ (.bool t)) b s t := by
  have := rowSet h 1 (.bool t); simpa [RQ] using this
theorem RQ.kp {w w' : World} {b : Nat} {s : List UInt8} {g : Bool} (h : RQ w b s g) {S : List Nat} (k : Kp S w w') (hn : b ∉ S) : RQ w' b s g := k.heap h hn
/-- The same: what lives has a rest, what is dead has none. -/
def RO (w : World) (b : Nat) (r : Option (List UInt8)) : Prop := RQ w b (rst r) r.isNone
set_option maxRecDepth 100000 in
theorem rcut_walk (b : Nat) (s : List UInt8) (g : Bool) (n : Nat) (hn : n ≤ s.length) (hs : s.length ≤ 140737488351232) (w : World) (h : RQ w b s g) :
    Calls Tryd.prog 52 #[.pointer (some ⟨b, 0, none⟩), .int .i64 (n : Nat)] w fun e w' => e = .returned (.string (bs (s.take n))) ∧ Kp [b] w w' ∧ RQ w' b (s.drop n) g := by
  obtain ⟨c0, c1, f0, f1⟩ := h.cells
  have H := Lib.hid h; clear h
  go_enter Tryd.func52, Tryd.ntmps52
  go_wp2
  go_ret
  exact ⟨rfl, (Kp.refl _ _).set _ (by simp) _, H.out.set0 _⟩
theorem RO.some {w : World} {b : Nat} {s : List UInt8} (h : RO w b (some s)) : RQ w b s false := h
theorem RO.none {w : World} {b : Nat} (h : RO w b none) : RQ w b [] true := h
/-- What is left, however it stands: no longer than n. -/
def Rl (n : Nat) (r : Option (List UInt8)) : Prop := (rst r).length ≤ n
/-- What took leaves. -/
def tkR (c : UInt8) (r : Option (List UInt8)) : Option (List UInt8) := match tk c r with | some t => some t | none => r
set_option maxRecDepth 100000 in
theorem rtook_walk (b : Nat) (c : UInt8) (r : Option (List UInt8)) (hs : Rl 140737488351232 r) (w : World) (h : RO w b r) :
    Calls Tryd.prog 30 #[.pointer (some ⟨b, 0, none⟩), .int .u8 (c.toNat : Nat)] w fun e w' => e = .returned (.bool (tk c r).isSome) ∧ Kp [b] w w' ∧ RO w' b (tkR c r) := by
  unfold RO at h
  obtain ⟨c0, c1, f0, f1⟩ := h.cells
  by_cases hr : ∃ t, r = some (c :: t)
  · obtain ⟨t, rfl⟩ := hr
    have HC := Lib.hid (rcut_walk b (c :: t) false 1 (by simp) hs w h)
    have e1 : tk c (some (c :: t)) = some t := tk_self c t
    have e2 : tkR c (some (c :: t)) = some t := by unfold tkR; rw [e1]
    have hb : byt (c :: t) 0 = c.toNat := rfl
    have hne : (c :: t).isEmpty = false := rfl
    have hpos : 0 < (c :: t).length := by simp
    have HD := Lib.hid (show (c :: t).drop 1 = t from rfl)
    rw [e1, e2]
    simp only [rst, Option.getD_some] at c0
    clear h f0 f1 e1 e2 hs
    generalize (c :: t) = L at *
    go_enter Tryd.func30, Tryd.ntmps30
    go_wp2_with fail
    refine HC.out.mono ?_
    rintro e w1 ⟨rfl, k1, h1⟩
    rw [HD.out] at h1
    go_wp2
    go_ret
    exact ⟨rfl, k1, h1⟩
  · have e1 : tk c r = none := by
      cases ht : tk c r with
      | none => rfl
      | some t => exact absurd ⟨t, tk_eq ht⟩ hr
    have e2 : tkR c r = r := by unfold tkR; rw [e1]
    have H := Lib.hid (show RO w b r from h)
    have hq : rst r = [] ∨ ((rst r).isEmpty = false ∧ 0 < (rst r).length ∧ byt (rst r) 0 ≠ c.toNat) := by
      cases r with
      | none => exact .inl rfl
      | some s => cases s with
        | nil => exact .inl rfl
        | cons x t => exact .inr ⟨rfl, by simp [rst], fun e => hr ⟨t, by rw [show x = c from UInt8.toNat_inj.1 e]⟩⟩
    rw [e1, e2]
    clear h f0 f1 e1 e2 hs hr c1
    rcases hq with h0 | ⟨hne, hpos, hb⟩
    · rw [h0] at c0
      go_enter Tryd.func30, Tryd.ntmps30
      go_wp2
      go_ret
      exact ⟨rfl, Kp.refl _ _, H.out⟩
    · have hb2 : (((byt (rst r) 0 : Nat) : Int) == ((c.toNat : Nat) : Int)) = false := by rw [beq_eq_false_iff_ne]; omega
      clear hb
      generalize hL : rst r = L at *
      have HL := Lib.hid hL
      clear hL
      go_enter Tryd.func30, Tryd.ntmps30
      go_wp2
      go_ret
      exact ⟨rfl, Kp.refl _ _, H.out⟩
theorem tkR_mk (c : UInt8) (r : Option (List UInt8)) (h : (tk c r).isSome = true) : tkR c r = mk1 c r := by
  unfold tkR
  cases ht : tk c r with
  | none => rw [ht] at h; cases h
  | some t => rw [tk_eq ht]; exact (mk1_self c t).symm
theorem mk1_no (c : UInt8) (r : Option (List UInt8)) (h : (tk c r).isSome = false) : mk1 c r = none := by
  cases hm : mk1 c r with
  | none => rfl
  | some t => rw [mk1_eq hm, tk_self] at h; cases h
set_option maxRecDepth 100000 in
theorem rmark_walk (b : Nat) (c : UInt8) (r : Option (List UInt8)) (hs : Rl 140737488351232 r) (w : World) (h : RO w b r) :
    Calls Tryd.prog 55 #[.pointer (some ⟨b, 0, none⟩), .int .u8 (c.toNat : Nat)] w fun e w' => e = .returned (.tuple #[]) ∧ Kp [b] w w' ∧ RO w' b (mk1 c r) := by
  have HT := Lib.hid (rtook_walk b c r hs w h)
  have HY := Lib.hid (tkR_mk c r)
  have HN := Lib.hid (mk1_no c r)
  clear h hs
  cases ht : (tk c r).isSome
  · have HN2 := Lib.hid (HN.out ht)
    rw [ht] at HT
    clear ht
    generalize (c.toNat : Nat) = n at *
    go_enter Tryd.func55, Tryd.ntmps55
    go_wp2_with fail
    refine HT.out.mono ?_
    rintro e w1 ⟨rfl, k1, h1⟩
    unfold RO at h1
    obtain ⟨c0, c1, f0, f1⟩ := h1.cells
    have H1 := Lib.hid h1
    clear h1
    go_wp2
    go_end0
    rw [HN2.out]
    exact ⟨rfl, (k1.set _ (by simp) _).set _ (by simp) _, (H1.out.set0 []).set1 true⟩
  · have HN2 := Lib.hid (HY.out ht)
    rw [ht] at HT
    clear ht
    generalize (c.toNat : Nat) = n at *
    go_enter Tryd.func55, Tryd.ntmps55
    go_wp2_with fail
    refine HT.out.mono ?_
    rintro e w1 ⟨rfl, k1, h1⟩
    go_wp2
    go_end0
    rw [← HN2.out]
    exact ⟨rfl, k1, h1⟩
theorem nmQ_drop (s : List UInt8) : s.drop (nmP s).length = nmQ s ∧ s.take (nmP s).length = nmP s := by
  have h := nmP_split s
  refine ⟨?_, ?_⟩
  · conv => lhs; rw [h]
    rw [show (nmP (nmP s ++ nmQ s)).length = (nmP s).length by rw [← h], List.drop_left]
  · conv => lhs; rw [h]
    rw [show (nmP (nmP s ++ nmQ s)).length = (nmP s).length by rw [← h], List.take_left]
set_option maxRecDepth 100000 in
theorem rname_walk (b : Nat) (r : Option (List UInt8)) (hs : Rl 140737488351232 r) (w : World) (h : RO w b r) :
    Calls Tryd.prog 53 #[.pointer (some ⟨b, 0, none⟩)] w fun e w' => e = .returned (.string (bs (nmP (rst r)))) ∧ Kp [b] w w' ∧ RO w' b (r.map nmQ) := by
  have HO := Lib.hid (show ∀ w', RQ w' b (nmQ (rst r)) r.isNone → RO w' b (r.map nmQ) from fun w' h => by
    cases r with
    | none => exact h
    | some s => exact h)
  unfold RO at h
  obtain ⟨c0, c1, f0, f1⟩ := h.cells
  unfold Rl at hs
  generalize r.isNone = g at *
  generalize rst r = s at *
  have HN := Lib.hid (fun w1 => namelong_walk s (by omega) w1)
  have hle : (nmP s).length ≤ s.length := by have := congrArg List.length (nmP_split s); rw [List.length_append] at this; omega
  have hc := rcut_walk b s g (nmP s).length hle hs w h
  rw [(nmQ_drop s).1, (nmQ_drop s).2] at hc
  have HC := Lib.hid hc
  clear hc hle h f0 f1 c1
  generalize (nmP s).length = n at *
  go_enter Tryd.func53, Tryd.ntmps53
  go_wp2_with fail
  refine (HN.out _).mono ?_
  rintro e w1 ⟨rfl, rfl⟩
  go_wp2_with fail
  refine HC.out.mono ?_
  rintro e w1 ⟨rfl, k1, h1⟩
  go_wp2
  go_ret
  exact ⟨rfl, k1, HO.out _ h1⟩
end Go.Proofs.YtkpcfbadhoiigaaDoor
