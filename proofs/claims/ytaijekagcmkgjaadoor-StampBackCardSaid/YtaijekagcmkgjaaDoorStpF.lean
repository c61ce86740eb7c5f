/- The document's own zone, and Parse, walked. -/
import Derived.Test.YtaijekagcmkgjaaDoorStpE
namespace Go.Proofs.YtaijekagcmkgjaaDoor
open Go.ChangeShapes Go.WideShapes Go.ChangeAt Go.RowKit K S3
set_option linter.unusedVariables false

/-- Only draws lie between. -/
def Drew (w w' : World) : Prop := ∃ n, w' = w.drewN n
theorem Drew.refl (w : World) : Drew w w := ⟨0, rfl⟩
theorem Drew.trans {a b c : World} (h : Drew a b) (k : Drew b c) : Drew a c := by
  obtain ⟨n, rfl⟩ := h; obtain ⟨m, rfl⟩ := k
  exact ⟨n + m, by unfold World.drewN; simp [Nat.add_assoc]⟩
theorem Drew.below {a b : World} (h : Drew a b) : Below a.heap.size a b := by
  obtain ⟨n, rfl⟩ := h; exact ⟨rfl, rfl, rfl, Nat.le_refl _, fun _ _ => rfl⟩

set_option maxRecDepth 100000 in
set_option maxHeartbeats 1000000 in
theorem qzone_walk (l : List UInt8) (hl : l.length ≤ 140737488351232) (w : World) :
    Calls Tryd.prog 31 #[.string (bs l)] w fun e w' => e = .returned (.tuple #[.int .i64 (rzV l), .bool (rzOk l)]) ∧ Drew w w' := by
  by_cases hz : l = [90]
  · subst hz
    rw [rz_z.1, rz_z.2]
    go_enter Tryd.func31, Tryd.ntmps31
    go_wp2
    go_ret2
    exact ⟨rfl, Drew.refl _⟩
  · have hx : (l == [90]) = false := by simpa using hz
    by_cases hg : zGood l
    · have hr := rz_good l hg
      rw [hr.1, hr.2]
      obtain ⟨h6, hs, h3, a1, a2, b1, b2⟩ := hg
      have hA := fun w1 => qnumber_walk ((l.drop 1).take 2) (by rw [List.length_take]; omega) w1
      have hB := fun w1 => qnumber_walk ((l.drop 4).take 2) (by rw [List.length_take]; omega) w1
      rw [List.drop_one] at hA a1 a2 ⊢
      generalize numI (List.take 2 l.tail) = A at hA a1 a2 ⊢
      generalize numI ((l.drop 4).take 2) = B at hB b1 b2 ⊢
      have HA := Lib.hid hA; have HB := Lib.hid hB
      have hl6 : (((l.length : Nat) : Int) != 6) = false := by rw [bne_eq_false_iff_eq]; omega
      have hl0 : 6 ≤ l.length := by omega
      have hI3 : (3 : Int) ≤ ((l.length : Nat) : Int) := by omega
      have hI6 : (6 : Int) ≤ ((l.length : Nat) : Int) := by omega
      have h58 : (((byt l 3 : Nat) : Int) != 58) = false := by rw [bne_eq_false_iff_eq]; exact h3
      clear hA hB hz hr h6 h3
      rcases hs with e | e
      · have c1 : (((byt l 0 : Nat) : Int) != 43) = false := by rw [bne_eq_false_iff_eq]; exact e
        have c2 : (((byt l 0 : Nat) : Int) == 45) = false := by rw [beq_eq_false_iff_ne]; omega
        rw [if_neg (by omega : ¬ (byt l 0 : Int) = 45)]
        clear e
        go_enter Tryd.func31, Tryd.ntmps31
        go_wp2
        go_quiet ((first | (go_at_call 28; with_reducible refine Calls.quiet_mk (HA.out _)) | (go_at_call 28; with_reducible refine Calls.quiet_mk (HB.out _))))
        go_wp2
        go_ret2
        exact ⟨rfl, _, rfl⟩
      · have c1 : (((byt l 0 : Nat) : Int) != 43) = true := by rw [bne_iff_ne]; omega
        have c3 : (((byt l 0 : Nat) : Int) != 45) = false := by rw [bne_eq_false_iff_eq]; exact e
        have c2 : (((byt l 0 : Nat) : Int) == 45) = true := by rw [beq_iff_eq]; exact e
        rw [if_pos e]
        clear e
        go_enter Tryd.func31, Tryd.ntmps31
        go_wp2
        go_quiet ((first | (go_at_call 28; with_reducible refine Calls.quiet_mk (HA.out _)) | (go_at_call 28; with_reducible refine Calls.quiet_mk (HB.out _))))
        go_wp2
        go_ret2
        exact ⟨rfl, _, rfl⟩
    · have hb := rz_bad l hz hg
      have hv : rzV l = 0 := by unfold rzV; rw [hb]; rfl
      rw [hb, hv]
      clear hb hv hz
      by_cases h6 : l.length = 6
      · have hl6 : (((l.length : Nat) : Int) != 6) = false := by rw [bne_eq_false_iff_eq]; omega
        have hl0 : 6 ≤ l.length := by omega
        have hI3 : (3 : Int) ≤ ((l.length : Nat) : Int) := by omega
        have hI6 : (6 : Int) ≤ ((l.length : Nat) : Int) := by omega
        by_cases hs : (byt l 0 : Int) = 43 ∨ (byt l 0 : Int) = 45
        · by_cases h3 : (byt l 3 : Int) = 58
          · have h58 : (((byt l 3 : Nat) : Int) != 58) = false := by rw [bne_eq_false_iff_eq]; exact h3
            have hA := fun w1 => qnumber_walk ((l.drop 1).take 2) (by rw [List.length_take]; omega) w1
            have hB := fun w1 => qnumber_walk ((l.drop 4).take 2) (by rw [List.length_take]; omega) w1
            have hno : ¬ (0 ≤ numI ((l.drop 1).take 2) ∧ numI ((l.drop 1).take 2) ≤ 23 ∧ 0 ≤ numI ((l.drop 4).take 2) ∧ numI ((l.drop 4).take 2) ≤ 59) := fun h => hg ⟨h6, hs, h3, h⟩
            rw [List.drop_one] at hA hno
            generalize numI (List.take 2 l.tail) = A at hA hno
            generalize numI ((l.drop 4).take 2) = B at hB hno
            have HA := Lib.hid hA; have HB := Lib.hid hB
            clear hA hB hg h3 h6
            have hs2 : ((((byt l 0 : Nat) : Int) != 43) = false) ∨ ((((byt l 0 : Nat) : Int) != 43) = true ∧ (((byt l 0 : Nat) : Int) != 45) = false) := by
              rcases hs with e | e
              · left; rw [bne_eq_false_iff_eq]; exact e
              · right; rw [bne_iff_ne, bne_eq_false_iff_eq]; exact ⟨by omega, e⟩
            have hno2 : A < 0 ∨ (0 ≤ A ∧ 23 < A) ∨ (0 ≤ A ∧ A ≤ 23 ∧ B < 0) ∨ (0 ≤ A ∧ A ≤ 23 ∧ 0 ≤ B ∧ 59 < B) := by omega
            clear hs hno
            rcases hs2 with c1 | ⟨c1, c2⟩
            all_goals
              go_enter Tryd.func31, Tryd.ntmps31
              go_wp2
              go_quiet ((first | (go_at_call 28; with_reducible refine Calls.quiet_mk (HA.out _)) | (go_at_call 28; with_reducible refine Calls.quiet_mk (HB.out _))))
              rcases hno2 with n1 | ⟨n1, n2⟩ | ⟨n1, n2, n3⟩ | ⟨n1, n2, n3, n4⟩
              all_goals
                go_wp2
                go_ret2
                exact ⟨rfl, _, rfl⟩
          · have h58 : (((byt l 3 : Nat) : Int) != 58) = true := by rw [bne_iff_ne]; exact h3
            have hs2 : ((((byt l 0 : Nat) : Int) != 43) = false) ∨ ((((byt l 0 : Nat) : Int) != 43) = true ∧ (((byt l 0 : Nat) : Int) != 45) = false) := by
              rcases hs with e | e
              · left; rw [bne_eq_false_iff_eq]; exact e
              · right; rw [bne_iff_ne, bne_eq_false_iff_eq]; exact ⟨by omega, e⟩
            clear hg h3 h6 hs
            rcases hs2 with c1 | ⟨c1, c2⟩
            all_goals
              go_enter Tryd.func31, Tryd.ntmps31
              go_wp2
              go_ret2
              exact ⟨rfl, Drew.refl _⟩
        · have c1 : (((byt l 0 : Nat) : Int) != 43) = true := by rw [bne_iff_ne]; omega
          have c2 : (((byt l 0 : Nat) : Int) != 45) = true := by rw [bne_iff_ne]; omega
          clear hg h6 hs
          go_enter Tryd.func31, Tryd.ntmps31
          go_wp2
          go_ret2
          exact ⟨rfl, Drew.refl _⟩
      · have hl6 : (((l.length : Nat) : Int) != 6) = true := by rw [bne_iff_ne]; omega
        clear hg h6
        go_enter Tryd.func31, Tryd.ntmps31
        go_wp2
        go_ret2
        exact ⟨rfl, Drew.refl _⟩
end Go.Proofs.YtaijekagcmkgjaaDoor
