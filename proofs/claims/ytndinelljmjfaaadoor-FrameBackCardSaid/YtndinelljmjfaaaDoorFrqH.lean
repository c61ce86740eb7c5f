/- slices.Clone of bytes; the program's Fork, walked. -/
import Derived.Test.YtndinelljmjfaaaDoorFrqG
import Derived.Lib.SliceRun
namespace Go.Proofs.YtndinelljmjfaaaDoor
open Go.ChangeShapes Go.WideShapes Go.ChangeAt Go.RowKit K F12
set_option linter.unusedVariables false

theorem OwnY.emptyA (w : World) : OwnY (w.alloc (.cells #[] 5)) w.heap.size (.slice (some ⟨w.heap.size, 0, none⟩) 0 0) [] :=
  ⟨by simp [byts], .inr ⟨w.heap.size, 0, #[], rfl, Nat.le_refl _, rowNew w _, Nat.le_refl _, by unfold maxLen; omega, by simp, by simp [byts]⟩⟩
set_option maxRecDepth 100000 in
set_option maxHeartbeats 1000000 in
theorem clone_walk (v : Value) (bt : List UInt8) (hb : bt.length ≤ 100000000) (w : World) (h : OwnY w 0 v bt) :
    Calls Tryd.prog 21 #[v] w fun e w' => ∃ v', e = .returned v' ∧ OwnY w' w.heap.size v' bt ∧ (v = .slice none 0 0 → v' = .slice none 0 0) ∧ Below w.heap.size w w' := by
  rcases h.2 with ⟨hv, h0⟩ | ⟨g, cap, cur, hv, hB, hh, hle, hm, hs, ht⟩
  · have hl : bt = [] := List.length_eq_zero_iff.1 h0
    subst hl
    subst hv
    have hcmp : ∀ wx, (binOp .eql 46 (.slice none 0 0) (.slice none 0 0)).run Tryd.prog wx = .ok (.bool true) wx := fun wx => Lib.run_eql_slice_nil wx 46 5 none 0 0 0 0 Tryd.underlying46
    clear h h0
    go_enter Tryd.func21, Tryd.ntmps21
    go_wp2
    go_ret
    exact ⟨_, rfl, OwnY.nil _ _, fun _ => rfl, Below.refl _ _⟩
  · subst hv
    obtain ⟨i0, hi, hz0, hz1, hz2⟩ := info_of yinfo
    have hcells : ∀ j u, (byts bt)[j]? = some u → (w.alloc (.cells #[] 5)).cell? ((⟨g, 0, none⟩ : Addr).add j) = some u := by
      intro j u hj
      have := World.ownsRow.cells (World.ownsRow.alloc h (.cells #[] 5)) (g := g) rfl
      exact this j u hj
    have hcmp : ∀ wx, (binOp .eql 46 (.slice (some ⟨g, 0, none⟩) bt.length cap) (.slice none 0 0)).run Tryd.prog wx = .ok (.bool false) wx := fun wx => Lib.run_eql_slice_nil wx 46 5 _ _ _ 0 0 Tryd.underlying46
    have HC := Lib.hid hcells
    have HO := Lib.hid (OwnY.emptyA w)
    have a1 : Below w.heap.size w (w.alloc (.cells #[] 5)) := (Below.refl _ _).alloc (Nat.le_refl _) _
    have HA := Lib.hid a1
    clear h hh hs ht hcells a1
    go_enter Tryd.func21, Tryd.ntmps21
    go_wp2_with (at_builtin; refine wpList_append_own _ rfl _ _ 46 rfl w.heap.size 5 i0 (.int .u8 0) 1 1 Tryd.underlying46 hi hz0 hz1 hz2 rfl (by decide) _ 0 [] rfl HO.out ⟨g, 0, none⟩ bt.length cap (byts bt) rfl ?c1 HC.out ?c2 ?c3 ?c4 ?c5 ?_)
    case c1 => rw [byts_len, Nat.mul_one]
    case c2 =>
      intro u hu
      obtain ⟨b, _, rfl⟩ := List.mem_map.1 hu
      rfl
    case c3 => unfold maxLen; omega
    case c4 => omega
    case c5 => have := HA.out.size; omega
    intro v' w2 hown hg _
    have HO2 := Lib.hid (show OwnY w2 w.heap.size v' bt by simpa [OwnY] using hown)
    have HB2 := Lib.hid (HA.out.grown hg (by have := HA.out.size; omega) (fun k hk => by simp [Value.ownBlock] at hk; omega))
    clear hown hg
    go_wp2
    go_ret
    exact ⟨_, rfl, HO2.out, fun e => (by injection e with e1 _ _; cases e1), HB2.out⟩
set_option maxRecDepth 100000 in
set_option maxHeartbeats 1000000 in
theorem fork_walk (w : World) (b : Nat) (S : List Nat) (st : Fs) (h : FrR w b S st) : Calls Tryd.prog 10 #[.pointer (some ⟨b, 0, none⟩)] w fun e w' => ∃ b' S', e = .returned (.pointer (some ⟨b', 0, none⟩)) ∧ FrR w' b' S' st ∧ (∀ x ∈ S', w.heap.size ≤ x) ∧ Below w.heap.size w w' := by
  obtain ⟨wt, lg, ah, v, bt, h1, h2, rfl, hm1, hm2, hd, hs⟩ := h
  obtain ⟨ao, cap, rfl, -⟩ := h2.form
  obtain ⟨x0, x1, x2, x3, x4, x5, x6⟩ := h1.cells
  have hbl : b < w.heap.size := lt_of_block h1
  have HF := Lib.hid h1
  have HY := Lib.hid h2
  obtain ⟨wa, hwa⟩ : ∃ wa, w.alloc (.cells #[.int .i64 (st.most : Nat), .bool st.s.isNone, .int .i64 (st.dr : Nat), .int .i64 (wt : Nat), .int .i64 (lg : Nat), .int .i64 (ah : Nat), .slice ao bt.length cap] 51) = wa := ⟨_, rfl⟩
  have hn1 : FrB wa w.heap.size st.most st.s.isNone st.dr wt lg ah (.slice ao bt.length cap) := by rw [← hwa]; exact rowNew w _
  have ba : Below w.heap.size w wa := by rw [← hwa]; exact (Below.refl _ _).alloc (Nat.le_refl _) _
  have hs1 : wa.heap.size = w.heap.size + 1 := by rw [← hwa]; simp
  have ya : OwnY wa 0 (.slice ao bt.length cap) bt := h2.below ba
  obtain ⟨e1, e2⟩ := fr_hold hd hs
  have HC := Lib.hid (clone_walk (.slice ao bt.length cap) bt (by omega) wa ya)
  have HW := Lib.hid hwa
  have HBA := Lib.hid ba
  have HS := Lib.hid hs1
  have HN := Lib.hid hn1
  have HD := Lib.hid hd
  have HP := Lib.hid hs
  have HM1 := Lib.hid hm1
  have HM2 := Lib.hid hm2
  clear h1 h2 hwa hn1 ba hs1 ya e1 e2 hd hs hm1 hm2
  go_enter Tryd.func10, Tryd.ntmps10
  go_wp2_with fail
  rw [HW.out]
  refine HC.out.mono ?_
  rintro e w2 ⟨v2, rfl, o2, n2, b2⟩
  have q2 : FrB w2 w.heap.size st.most st.s.isNone st.dr wt lg ah (.slice ao bt.length cap) := (b2.block _ (lt_of_block HN.out)).trans HN.out
  obtain ⟨ao2, cap2, rfl, -⟩ := o2.form
  have HN2 := Lib.hid n2
  have f6 := q2.free.2.2.2.2.2
  have HQ3 := Lib.hid (q2.setBt (.slice ao2 bt.length cap2))
  have HY3 := Lib.hid (OwnY.set o2 q2 (by decide) 6 (.slice ao2 bt.length cap2))
  have HB3 := Lib.hid ((HBA.out.trans (b2.mono (by have := HS.out; omega))).setCell (p := ⟨w.heap.size, 6, none⟩) (Nat.le_refl _) (.slice ao2 bt.length cap2))
  obtain ⟨y0, y1, y2, y3, y4, y5, y6⟩ := q2.cells
  clear q2 o2 b2 n2 x0 x1 x2 x3 x4 x5 x6
  go_wp2
  go_ret
  refine ⟨w.heap.size, w.heap.size :: (Value.slice ao2 bt.length cap2).ownBlock.toList, rfl, ⟨wt, lg, ah, _, bt, HQ3.out, World.ownsRow.mono HY3.out (Nat.zero_le _), rfl, HM1.out, HM2.out, fun e => ?_, HP.out⟩, fun x hx => ?_, HB3.out⟩
  · obtain ⟨e1, e2, e3, e4, e5⟩ := HD.out e
    exact ⟨e1, e2, e3, HN2.out e4, e5⟩
  · rcases List.mem_cons.1 hx with rfl | hx
    · exact Nat.le_refl _
    · have := (World.ownsRow.lt HY3.out x (Option.mem_toList.1 hx)).1
      have := HS.out
      omega
end Go.Proofs.YtndinelljmjfaaaDoor
