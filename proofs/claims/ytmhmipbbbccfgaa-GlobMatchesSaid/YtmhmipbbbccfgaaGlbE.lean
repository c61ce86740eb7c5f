/- The document's set, whole: written by gen_globd.py. -/
import Derived.Test.YtmhmipbbbccfgaaGlbD2
import Derived.Test.YtmhmipbbbccfgaaGlbD3
namespace Go.Proofs.Ytmhmipbbbccfgaa
open Go.ChangeShapes Go.WideShapes Go.ChangeAt Go.RowKit K G13
set_option linter.unusedVariables false
set_option maxRecDepth 100000 in
set_option maxHeartbeats 1000000 in
theorem qset_nil (w : World) :
    Calls Try.prog 22 #[.string (bs [])] w fun e w' => SetPost (st13 []) w e w' := by
  have HN := Lib.hid (show st13 [] = none from rfl)
  have hne : ([] : List UInt8).isEmpty = true := rfl
  have z2 := zt2
  rw [tabB_zero] at z2
  have HS0 := Lib.hid (SeW.new w)
  generalize hu : ([] : List UInt8) = u at *
  go_enter Try.func22, Try.ntmps22
  go_wp2_with fail
  go_loopg [0, 7] 0 (fun g v0 v7 wr => v0 = .string (bs u) ∧ v7 = .int .i64 0 ∧ SeW w wr fun _ => false)
  case atStart => exact ⟨rfl, rfl, HS0.out⟩
  case round =>
    obtain ⟨rfl, rfl, hS⟩ := hrel
    clear HS0 z2
    subst hu
    have HST := Lib.hid (hS.r0.store (fun _ => false))
    have HR1 := Lib.hid hS.r1
    have HR0 := Lib.hid hS.r0
    have HBB := Lib.hid hS.b
    clear hS
    go_wp2_with fail
    refine wp_load_row 55 _ rfl (w.heap.size + 1) rfl 55 (tabB (fun _ => false)) (0, 0) _ HR1.out Try.underlying55 rfl (by rw [sz2, tabB_size]) ?_
    have hst := HST.out
    have hts := tabB_size (fun _ => false)
    go_wp2_with fail
    refine bodyPost_ret (gres_row3 rfl _ _ w.heap.size _ _ _ _ rfl (setRow_heap _ _ _ _ _ _ HR0.out) Try.underlying55 rfl (by rw [sz2, tabB_size])) rfl ?_
    rw [HN.out]
    exact ⟨below_setRow HBB.out (Nat.le_refl _) _, _, rfl⟩
theorem qset13_walk (s : List UInt8) (hs : s.length ≤ 1000) (w : World) :
    Calls Try.prog 22 #[.string (bs s)] w fun e w' => SetPost (st13 s) w e w' := by
  cases s with
  | nil => exact qset_nil w
  | cons c t =>
    by_cases h : c = 33
    · subst h
      rw [st13_not]
      exact qset_not t (by simp only [List.length_cons] at hs; omega) w
    · rw [st13_is h]
      exact qset_is c t h hs w
end Go.Proofs.Ytmhmipbbbccfgaa
