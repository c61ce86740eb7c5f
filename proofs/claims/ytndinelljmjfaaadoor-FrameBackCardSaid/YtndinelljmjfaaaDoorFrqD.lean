/- The program's take, walked. -/
import Derived.Test.YtndinelljmjfaaaDoorFrqC
namespace Go.Proofs.YtndinelljmjfaaaDoor
open Go.ChangeShapes Go.WideShapes Go.ChangeAt Go.RowKit K F12
set_option linter.unusedVariables false

set_option maxRecDepth 100000 in
set_option maxHeartbeats 1500000 in
theorem take_walk (b most dr lg ah : Nat) (v : Value) (bt c : List UInt8) (hlg : lg ≤ 65535) (hbt : bt.length < lg) (hc : c.length ≤ 1000000) (w : World) (h : FrB w b most false dr 2 lg ah v) (hO : OwnY w 0 v bt) :
    Calls Tryd.prog 27 #[.pointer (some ⟨b, 0, none⟩), .string (bs c)] w (TkPost w b most dr lg ah v bt c) := by
  obtain ⟨ao, cap, hv, hcap⟩ := hO.form
  subst hv
  obtain ⟨c0, c1, c2, c3, c4, c5, c6⟩ := h.cells
  obtain ⟨n, hn⟩ : ∃ n, n = min (lg - bt.length) c.length := ⟨_, rfl⟩
  have z1 : IntKind.i64.wrap (((lg : Nat) : Int) - ((bt.length : Nat) : Int)) = ((lg : Nat) : Int) - ((bt.length : Nat) : Int) := IntWalk.i64_in _ (by omega)
  have HF := Lib.hid h
  have HO := Lib.hid hO
  have hnl : n ≤ c.length := by omega
  have hnl1 : ((n : Nat) : Int) ≤ ((c.length : Nat) : Int) := by omega
  have hll : bt.length + (c.take n).length ≤ 100000000 := by rw [List.length_take]; omega
  have e1 : c.take (lg - bt.length) = c.take n := by
    rw [hn]
    rcases Nat.le_total (lg - bt.length) c.length with h1 | h1
    · rw [Nat.min_eq_left h1]
    · rw [Nat.min_eq_right h1, List.take_of_length_le h1, List.take_length]
  have e2 : c.drop (lg - bt.length) = c.drop n := by
    rw [hn]
    rcases Nat.le_total (lg - bt.length) c.length with h1 | h1
    · rw [Nat.min_eq_left h1]
    · rw [Nat.min_eq_right h1, List.drop_eq_nil_of_le h1, List.drop_length]
  have HN := Lib.hid hn
  have HE1 := Lib.hid e1
  have HE2 := Lib.hid e2
  unfold TkPost
  rw [e2]
  clear h hO e1 e2
  by_cases hle : lg - bt.length ≤ c.length
  · have hle2 : ((lg : Nat) : Int) - ((bt.length : Nat) : Int) ≤ ((c.length : Nat) : Int) := by omega
    have HX := Lib.hid (show ((lg : Nat) : Int) - ((bt.length : Nat) : Int) = ((n : Nat) : Int) by omega)
    clear hn HN hle
    go_enter Tryd.func27, Tryd.ntmps27
    go_wp2_with fail
    go_quiet (fail)
    rw [HX.out]
    have q2 : FrB (w.drewN nq) b most false dr 2 lg ah (.slice ao bt.length cap) := HF.out
    have o2 : OwnY (w.drewN nq) 0 (.slice ao bt.length cap) bt := HO.out
    have k2 : Kp (b :: (Value.slice ao bt.length cap).ownBlock.toList) w (w.drewN nq) := (Kp.refl _ w).drewN nq
    clear c0 c1 c2 c3 c4 c5 c6 z1 HF HO
    generalize w.drewN nq = w2 at *
    go_wp2_with fail
    refine wp_region_any (by kernel_rfl) ?_
    change wpAny _ _ _ _ _ _ _ (World.drew _)
    have q3 : FrB w2.drew b most false dr 2 lg ah (.slice ao bt.length cap) := q2
    have o3 : OwnY w2.drew 0 (.slice ao bt.length cap) bt := o2
    have k3 : Kp (b :: (Value.slice ao bt.length cap).ownBlock.toList) w w2.drew := k2.drew
    clear q2 o2 k2
    generalize w2.drew = w3 at *
    obtain ⟨c0, c1, c2, c3, c4, c5, c6⟩ := q3.cells
    refine wpAny_take (i := 0) (v := .pointer (some ⟨b, 0, none⟩)) rfl (by kernel_rfl) (by kernel_rfl) (by kernel_rfl) (fun _ _ _ h => h) (Or.inl ⟨by rfl, ?_⟩) ?_
    · intro w9
      go_simp
    refine wpAny_take (i := 1) (v := .pointer (some ⟨b, 0, none⟩)) rfl (by kernel_rfl) (by kernel_rfl) (by kernel_rfl) (fun _ _ _ h => h) (Or.inl ⟨by rfl, ?_⟩) ?_
    · intro w9
      go_simp
    refine wpAny_take (i := 2) (v := .pointer (some ⟨b, 0, none⟩)) rfl (by kernel_rfl) (by kernel_rfl) (by kernel_rfl) (fun _ _ _ h => h) (Or.inl ⟨by rfl, ?_⟩) ?_
    · intro w9
      go_simp
    refine wpAny_take (i := 3) (v := .pointer (some ⟨b, 3, none⟩)) rfl (by kernel_rfl) (by kernel_rfl) (by kernel_rfl) (fun _ _ _ h => h) (Or.inl ⟨by rfl, ?_⟩) ?_
    · intro w9
      go_simp
    refine wpAny_take (i := 4) (v := .pointer (some ⟨b, 6, none⟩)) rfl (by kernel_rfl) (by kernel_rfl) (by kernel_rfl) (fun _ _ _ h => h) (Or.inl ⟨by rfl, ?_⟩) ?_
    · intro w9
      go_simp
    refine wpAny_take (i := 6) (v := .string (bs c)) rfl (by kernel_rfl) (by kernel_rfl) (by kernel_rfl) (fun _ _ _ h => h) (Or.inl ⟨by rfl, ?_⟩) ?_
    · intro w9
      go_simp
    refine wpAny_take (i := 7) (v := .int .i64 ((n : Nat) : Int)) rfl (by kernel_rfl) (by kernel_rfl) (by kernel_rfl) (fun _ _ _ h => h) (Or.inl ⟨by rfl, ?_⟩) ?_
    · intro w9
      go_simp
    refine wpAny_take (i := 8) (v := .string (bs (c.take n))) rfl (by kernel_rfl) (by kernel_rfl) (by kernel_rfl) (fun _ _ _ h => h) (Or.inl ⟨by rfl, ?_⟩) ?_
    · intro w9
      go_simp
    refine wpAny_ready (rs := [5]) (by kernel_rfl) (by simp) (AllReady.cons rfl (fun K hK => ?_) AllReady.nil)
    go_simp
    refine hK _ _ ?_
    clear hK K
    refine wpAny_ready (rs := [9]) (by kernel_rfl) (by simp) (AllReady.cons rfl (fun K hK => ?_) AllReady.nil)
    refine appYs rfl rfl o3 rfl hll ?_
    intro v' w4 o4 g4 l4
    have g4 : w3.grownBy w4 (Value.slice ao bt.length cap).ownBlock := g4
    have l4 : ∀ g, v'.ownBlock = some g → (Value.slice ao bt.length cap).ownBlock = some g ∨ w3.heap.size ≤ g := l4
    obtain ⟨ao2, cap2, hv2, -⟩ := o4.form
    rw [List.length_append, List.length_take, Nat.min_eq_left hnl] at hv2
    subst hv2
    refine hK _ _ ?_
    clear hK K
    refine wpAny_take (i := 10) (v := .pointer (some ⟨b, 0, none⟩)) rfl (by kernel_rfl) (by kernel_rfl) (by kernel_rfl) (fun _ _ _ h => h) (Or.inl ⟨by rfl, ?_⟩) ?_
    · intro w9
      go_simp
    refine wpAny_take (i := 11) (v := .pointer (some ⟨b, 3, none⟩)) rfl (by kernel_rfl) (by kernel_rfl) (by kernel_rfl) (fun _ _ _ h => h) (Or.inl ⟨by rfl, ?_⟩) ?_
    · intro w9
      go_simp
    refine wpAny_take (i := 12) (v := .pointer (some ⟨b, 6, none⟩)) rfl (by kernel_rfl) (by kernel_rfl) (by kernel_rfl) (fun _ _ _ h => h) (Or.inl ⟨by rfl, ?_⟩) ?_
    · intro w9
      go_simp
    have k4 := kp_grown12 k3 g4 (fun j hj => .inl (by rw [hj]; simp))
    have q4 : FrB w4 b most false dr 2 lg ah (.slice ao bt.length cap) := (g4.block b (lt_of_block q3) (o3.ne q3 (by decide))).trans q3
    have l5 : ∀ g, (Value.slice ao2 (bt.length + n) cap2).ownBlock = some g → (Value.slice ao bt.length cap).ownBlock = some g ∨ w.heap.size ≤ g := fun g hg => (l4 g hg).imp id (fun h => Nat.le_trans k3.size h)
    clear c0 c1 c2 c3 c4 c5 c6
    obtain ⟨c0, c1, c2, c3, c4, c5, c6⟩ := q4.cells
    obtain ⟨f1, f2, f3, f4, f5, f6⟩ := q4.free
    refine wpAny_ready (rs := [13]) (by kernel_rfl) (by simp) (AllReady.cons rfl (fun K hK => ?_) AllReady.nil)
    go_simp
    refine hK _ _ ?_
    clear hK K
    refine wpAny_done (by kernel_rfl) ?_ _
    have HQ5 := Lib.hid (q4.setBt (.slice ao2 (bt.length + n) cap2))
    have HO5 := Lib.hid (o4.set q4 (by decide) 6 (.slice ao2 (bt.length + n) cap2))
    have HK5 := Lib.hid (k4.set ⟨b, 6, none⟩ (by simp) (.slice ao2 (bt.length + n) cap2))
    clear q3 o3 k3 g4 l4 q4 o4 k4 c0 c1 c2 c3 c4 c5 c6 f1 f2 f3 f4 f5 f6
    go_wp2
    go_ret
    exact ⟨_, rfl, HQ5.out, by rw [HE1.out]; exact HO5.out, HK5.out, l5⟩
  · have hle2 : ¬ ((lg : Nat) : Int) - ((bt.length : Nat) : Int) ≤ ((c.length : Nat) : Int) := by omega
    have HX := Lib.hid (show ((c.length : Nat) : Int) = ((n : Nat) : Int) by omega)
    clear hn HN hle
    go_enter Tryd.func27, Tryd.ntmps27
    go_wp2_with fail
    go_quiet (fail)
    rw [HX.out]
    have q2 : FrB (w.drewN nq) b most false dr 2 lg ah (.slice ao bt.length cap) := HF.out
    have o2 : OwnY (w.drewN nq) 0 (.slice ao bt.length cap) bt := HO.out
    have k2 : Kp (b :: (Value.slice ao bt.length cap).ownBlock.toList) w (w.drewN nq) := (Kp.refl _ w).drewN nq
    clear c0 c1 c2 c3 c4 c5 c6 z1 HF HO
    generalize w.drewN nq = w2 at *
    go_wp2_with fail
    refine wp_region_any (by kernel_rfl) ?_
    change wpAny _ _ _ _ _ _ _ (World.drew _)
    have q3 : FrB w2.drew b most false dr 2 lg ah (.slice ao bt.length cap) := q2
    have o3 : OwnY w2.drew 0 (.slice ao bt.length cap) bt := o2
    have k3 : Kp (b :: (Value.slice ao bt.length cap).ownBlock.toList) w w2.drew := k2.drew
    clear q2 o2 k2
    generalize w2.drew = w3 at *
    obtain ⟨c0, c1, c2, c3, c4, c5, c6⟩ := q3.cells
    refine wpAny_take (i := 0) (v := .pointer (some ⟨b, 0, none⟩)) rfl (by kernel_rfl) (by kernel_rfl) (by kernel_rfl) (fun _ _ _ h => h) (Or.inl ⟨by rfl, ?_⟩) ?_
    · intro w9
      go_simp
    refine wpAny_take (i := 1) (v := .pointer (some ⟨b, 0, none⟩)) rfl (by kernel_rfl) (by kernel_rfl) (by kernel_rfl) (fun _ _ _ h => h) (Or.inl ⟨by rfl, ?_⟩) ?_
    · intro w9
      go_simp
    refine wpAny_take (i := 2) (v := .pointer (some ⟨b, 0, none⟩)) rfl (by kernel_rfl) (by kernel_rfl) (by kernel_rfl) (fun _ _ _ h => h) (Or.inl ⟨by rfl, ?_⟩) ?_
    · intro w9
      go_simp
    refine wpAny_take (i := 3) (v := .pointer (some ⟨b, 3, none⟩)) rfl (by kernel_rfl) (by kernel_rfl) (by kernel_rfl) (fun _ _ _ h => h) (Or.inl ⟨by rfl, ?_⟩) ?_
    · intro w9
      go_simp
    refine wpAny_take (i := 4) (v := .pointer (some ⟨b, 6, none⟩)) rfl (by kernel_rfl) (by kernel_rfl) (by kernel_rfl) (fun _ _ _ h => h) (Or.inl ⟨by rfl, ?_⟩) ?_
    · intro w9
      go_simp
    refine wpAny_take (i := 6) (v := .string (bs c)) rfl (by kernel_rfl) (by kernel_rfl) (by kernel_rfl) (fun _ _ _ h => h) (Or.inl ⟨by rfl, ?_⟩) ?_
    · intro w9
      go_simp
    refine wpAny_take (i := 7) (v := .int .i64 ((n : Nat) : Int)) rfl (by kernel_rfl) (by kernel_rfl) (by kernel_rfl) (fun _ _ _ h => h) (Or.inl ⟨by rfl, ?_⟩) ?_
    · intro w9
      go_simp
    refine wpAny_take (i := 8) (v := .string (bs (c.take n))) rfl (by kernel_rfl) (by kernel_rfl) (by kernel_rfl) (fun _ _ _ h => h) (Or.inl ⟨by rfl, ?_⟩) ?_
    · intro w9
      go_simp
    refine wpAny_ready (rs := [5]) (by kernel_rfl) (by simp) (AllReady.cons rfl (fun K hK => ?_) AllReady.nil)
    go_simp
    refine hK _ _ ?_
    clear hK K
    refine wpAny_ready (rs := [9]) (by kernel_rfl) (by simp) (AllReady.cons rfl (fun K hK => ?_) AllReady.nil)
    refine appYs rfl rfl o3 rfl hll ?_
    intro v' w4 o4 g4 l4
    have g4 : w3.grownBy w4 (Value.slice ao bt.length cap).ownBlock := g4
    have l4 : ∀ g, v'.ownBlock = some g → (Value.slice ao bt.length cap).ownBlock = some g ∨ w3.heap.size ≤ g := l4
    obtain ⟨ao2, cap2, hv2, -⟩ := o4.form
    rw [List.length_append, List.length_take, Nat.min_eq_left hnl] at hv2
    subst hv2
    refine hK _ _ ?_
    clear hK K
    refine wpAny_take (i := 10) (v := .pointer (some ⟨b, 0, none⟩)) rfl (by kernel_rfl) (by kernel_rfl) (by kernel_rfl) (fun _ _ _ h => h) (Or.inl ⟨by rfl, ?_⟩) ?_
    · intro w9
      go_simp
    refine wpAny_take (i := 11) (v := .pointer (some ⟨b, 3, none⟩)) rfl (by kernel_rfl) (by kernel_rfl) (by kernel_rfl) (fun _ _ _ h => h) (Or.inl ⟨by rfl, ?_⟩) ?_
    · intro w9
      go_simp
    refine wpAny_take (i := 12) (v := .pointer (some ⟨b, 6, none⟩)) rfl (by kernel_rfl) (by kernel_rfl) (by kernel_rfl) (fun _ _ _ h => h) (Or.inl ⟨by rfl, ?_⟩) ?_
    · intro w9
      go_simp
    have k4 := kp_grown12 k3 g4 (fun j hj => .inl (by rw [hj]; simp))
    have q4 : FrB w4 b most false dr 2 lg ah (.slice ao bt.length cap) := (g4.block b (lt_of_block q3) (o3.ne q3 (by decide))).trans q3
    have l5 : ∀ g, (Value.slice ao2 (bt.length + n) cap2).ownBlock = some g → (Value.slice ao bt.length cap).ownBlock = some g ∨ w.heap.size ≤ g := fun g hg => (l4 g hg).imp id (fun h => Nat.le_trans k3.size h)
    clear c0 c1 c2 c3 c4 c5 c6
    obtain ⟨c0, c1, c2, c3, c4, c5, c6⟩ := q4.cells
    obtain ⟨f1, f2, f3, f4, f5, f6⟩ := q4.free
    refine wpAny_ready (rs := [13]) (by kernel_rfl) (by simp) (AllReady.cons rfl (fun K hK => ?_) AllReady.nil)
    go_simp
    refine hK _ _ ?_
    clear hK K
    refine wpAny_done (by kernel_rfl) ?_ _
    have HQ5 := Lib.hid (q4.setBt (.slice ao2 (bt.length + n) cap2))
    have HO5 := Lib.hid (o4.set q4 (by decide) 6 (.slice ao2 (bt.length + n) cap2))
    have HK5 := Lib.hid (k4.set ⟨b, 6, none⟩ (by simp) (.slice ao2 (bt.length + n) cap2))
    clear q3 o3 k3 g4 l4 q4 o4 k4 c0 c1 c2 c3 c4 c5 c6 f1 f2 f3 f4 f5 f6
    go_wp2
    go_ret
    exact ⟨_, rfl, HQ5.out, by rw [HE1.out]; exact HO5.out, HK5.out, l5⟩
end Go.Proofs.YtndinelljmjfaaaDoor
