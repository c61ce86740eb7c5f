/- The document's own Less, walked. -/
import Derived.Test.YtanainpapcblfaaDoorOidC
namespace Go.Proofs.YtanainpapcblfaaDoor
open Go.ChangeShapes Go.WideShapes Go.ChangeAt Go.RowKit K O6
set_option linter.unusedVariables false

theorem lt_at : ∀ {a b : List Nat} {i : Nat}, i < a.length → i < b.length → (∀ j, j < i → a.getD j 0 = b.getD j 0) → a.getD i 0 ≠ b.getD i 0 → O6.lt a b = decide (a.getD i 0 < b.getD i 0)
  | [], b, i, h, _, _, _ => by simp at h
  | x :: a, [], i, _, h, _, _ => by simp at h
  | x :: a, y :: b, 0, _, _, _, hn => by
    have hn' : x ≠ y := hn
    rw [O6.lt_cons, if_neg hn']; rfl
  | x :: a, y :: b, i + 1, h1, h2, hj, hn => by
    have h0 : x = y := hj 0 (by omega)
    have h3 := lt_at (a := a) (b := b) (i := i) (by simpa using h1) (by simpa using h2) (fun j h => by have := hj (j + 1) (by omega); simpa using this) (by simpa using hn)
    rw [O6.lt_cons, if_pos h0, h3]; simp
theorem lt_end : ∀ {a b : List Nat}, (∀ j, j < a.length → j < b.length → a.getD j 0 = b.getD j 0) → O6.lt a b = decide (a.length < b.length)
  | [], [], _ => rfl
  | [], y :: b, _ => by simp [O6.lt]
  | x :: a, [], _ => by simp [O6.lt]
  | x :: a, y :: b, hj => by
    have h0 : x = y := hj 0 (by simp) (by simp)
    have h3 := lt_end (a := a) (b := b) (fun j h h2 => by have := hj (j + 1) (by simpa using h) (by simpa using h2); simpa using this)
    rw [O6.lt_cons, if_pos h0, h3]; simp
def LsRel (a b : List Nat) (w : World) (g : Nat) (v9 : Value) (wr : World) : Prop :=
  ∃ i, i + g = min a.length b.length ∧ v9 = .int .i64 (i : Nat) ∧ (∀ j, j < i → a.getD j 0 = b.getD j 0) ∧ ∃ m, wr = w.drewN m
/-- Whether one text's arcs stand ahead of another's: false, if one is none's. -/
def lsZ (r s : List UInt8) : Bool := (arcs r).isSome && ((arcs s).isSome && O6.lt (arL r) (arL s))
set_option maxRecDepth 100000 in
set_option maxHeartbeats 1000000 in
theorem qless_walk (r s : List UInt8) (hr : r.length ≤ 140737488351232) (hs : s.length ≤ 140737488351232) (w : World) :
    Calls Tryd.prog 26 #[.string (bs r), .string (bs s)] w fun e w' => e = .returned (.bool (lsZ r s)) ∧ Below w.heap.size w w' := by
  have HA := Lib.hid (qarcs_walk r hr w)
  have HB := Lib.hid (qarcs_walk s hs)
  have hwi : lsZ r s = ((arE r == 0) && ((arE s == 0) && O6.lt (arL r) (arL s))) := by
    unfold lsZ arE
    cases (arcs r).isSome <;> cases (arcs s).isSome <;> rfl
  rw [hwi]
  have hla := arL_len r
  have hlb := arL_len s
  have hea : arE r = 0 ∨ arE r = 60 := by unfold arE; cases (arcs r).isSome <;> simp
  have heb : arE s = 0 ∨ arE s = 60 := by unfold arE; cases (arcs s).isSome <;> simp
  unfold ArPost at HA HB
  clear hwi
  generalize arE r = er at *
  generalize arE s = es at *
  generalize arL r = la at *
  generalize arL s = lb at *
  rcases hea with rfl | rfl <;> rcases heb with rfl | rfl
  all_goals
    go_enter Tryd.func26, Tryd.ntmps26
    go_wp2_with fail
    refine HA.out.mono ?_
    rintro e w1 ⟨va, rfl, hoa, hb1⟩
    go_wp2_with fail
    refine (HB.out w1).mono ?_
    rintro e w2 ⟨vb, rfl, hob, hb2⟩
    have hoa2 := hoa.below hb2
    have hb3 := hb1.trans (hb2.mono hb1.size)
    clear hoa hb1 hb2
    obtain ⟨ao, ca, rfl, hra⟩ := RdZ.own hoa2
    obtain ⟨bo, cb, rfl, hrb⟩ := RdZ.own hob
    have HRA := Lib.hid hra
    have HRB := Lib.hid hrb
    clear hoa2 hob hra hrb
  rotate_left
  iterate 3 (focus (go_wp2; go_ret; exact ⟨rfl, hb3⟩))
  focus
    have HB3 := Lib.hid hb3
    clear HA HB hb3
    go_wp2
    go_loopg [9] (min la.length lb.length) (fun g v9 wr => LsRel la lb w2 g v9 wr)
    case atStart => exact ⟨0, by omega, rfl, fun j hj => by omega, 0, rfl⟩
    case round =>
      obtain ⟨i, hig, rfl, hall, m, rfl⟩ := hrel
      cases gk with
      | zero =>
        have HE := Lib.hid (lt_end (a := la) (b := lb) (fun j h1 h2 => hall j (by omega)))
        have hcs : i = la.length ∨ (i < la.length ∧ i = lb.length) := by omega
        clear hall HRA HRB
        rcases hcs with rfl | ⟨h1, rfl⟩
        all_goals
          clear hig
          go_wp2
          go_ret
          exact ⟨by rw [HE.out]; simp, Below_drewNc HB3.out m⟩
      | succ g =>
        have hil : i < la.length := by omega
        have hil2 : i < lb.length := by omega
        rcases HRA.out with h0 | ⟨ga, oa, rfl, _, hca⟩
        · omega
        · rcases HRB.out with h0 | ⟨gb, ob, rfl, _, hcb⟩
          · omega
          · have c1 : (w2.drewN m).cell? ⟨ga, oa + i, none⟩ = some (.int .i64 ((la.getD i 0 : Nat) : Int)) := hca i hil
            have c2 : (w2.drewN m).cell? ⟨gb, ob + i, none⟩ = some (.int .i64 ((lb.getD i 0 : Nat) : Int)) := hcb i hil2
            have HAL := Lib.hid hall
            have HD := Lib.hid (show ∀ k, (w2.drewN m).drewN k = w2.drewN (m + k) from fun k => by unfold World.drewN; simp [Nat.add_assoc])
            have HBD := Lib.hid (Below_drewNc HB3.out m)
            generalize w2.drewN m = w5 at c1 c2 HD HBD ⊢
            by_cases hxy : la.getD i 0 = lb.getD i 0
            · have HX := Lib.hid hxy
              rw [← hxy] at c2
              clear hca hcb HRA HRB hall hxy
              generalize hx : ((la.getD i 0 : Nat) : Int) = x at c1 c2
              clear hx
              go_wp2_with fail
              go_quiet (fail)
              go_wp2
              go_roundg g
              case measure => omega
              case rel =>
                refine ⟨i + 1, by omega, by simp, fun j hj => ?_, m + nq, HD.out nq⟩
                rcases Nat.lt_or_ge j i with h1 | h1
                · exact HAL.out j h1
                · obtain rfl : j = i := by omega
                  exact HX.out
            · have HE := Lib.hid (lt_at hil hil2 hall hxy)
              have hne : (((la.getD i 0 : Nat) : Int) == ((lb.getD i 0 : Nat) : Int)) = false := by rw [beq_eq_false_iff_ne]; omega
              have hne2 : (((la.getD i 0 : Nat) : Int) != ((lb.getD i 0 : Nat) : Int)) = true := by rw [bne_iff_ne]; omega
              clear hca hcb HRA HRB hall HAL hxy
              generalize la.getD i 0 = x at *
              generalize lb.getD i 0 = y at *
              go_wp2_with fail
              go_quiet (fail)
              go_wp2_with fail
              go_quiet (fail)
              go_wp2
              go_ret
              exact ⟨by rw [HE.out]; simp, Below_drewNc (Below_drewNc HBD.out _) _⟩
end Go.Proofs.YtanainpapcblfaaDoor
