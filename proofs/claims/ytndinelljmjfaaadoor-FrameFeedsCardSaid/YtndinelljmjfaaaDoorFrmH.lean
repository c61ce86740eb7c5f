/- Texts spoilt; whether a framer and the document's stand the same. -/
import Derived.Test.YtndinelljmjfaaaDoorFrmG
namespace Go.Proofs.YtndinelljmjfaaaDoor
open Go.ChangeShapes Go.WideShapes Go.ChangeAt Go.RowKit K F12
set_option linter.unusedVariables false

/-- The block of a list. -/
def blkS (ao : Option Addr) (n : Nat) : List Nat := if n = 0 then [] else match ao with | some a => [a.block] | none => []
def RoomS (w : World) (ao : Option Addr) (n : Nat) : Prop := n = 0 ∨ ∃ g C, ao = some ⟨g, 0, none⟩ ∧ w.heap[g]? = some (.cells C 9 (0, 0)) ∧ n ≤ C.size
theorem RoomS.of {w : World} {B : Nat} {ao : Option Addr} {n cap : Nat} {ls : List (List UInt8)} (h : OwnS w B 9 (.slice ao n cap) ls) (hn : n = ls.length) : RoomS w ao n := by
  rcases h.2 with ⟨hv, h0⟩ | ⟨g, cap', cur, hv, hB, hh, hle, hm, hs, ht⟩
  · exact .inl (by rw [hn, h0])
  · injection hv with h1 h2 h3
    subst h1
    exact .inr ⟨g, cur, rfl, hh, by rw [hs]; omega⟩
def SxRel (w : World) (ao : Option Addr) (n g : Nat) (v2 : Value) (wr : World) : Prop :=
  ∃ i, i + g = n ∧ v2 = .int .i64 (i : Nat) ∧ RoomS wr ao n ∧ Kp (blkS ao n) w wr
set_option maxRecDepth 100000 in
theorem spoilS_walk (ao : Option Addr) (n cap : Nat) (hn : n ≤ 10000000) (w : World) (h : RoomS w ao n) :
    Calls Tryd.prog 15 #[.slice ao n cap] w fun e w' => e = .returned (.tuple #[]) ∧ Kp (blkS ao n) w w' := by
  go_enter Tryd.func15, Tryd.ntmps15
  go_wp2
  go_loopg [2] n (fun g v2 wr => SxRel w ao n g v2 wr)
  case atStart => exact ⟨0, by omega, rfl, h, Kp.refl _ _⟩
  case round =>
    obtain ⟨i, hi, rfl, hR, hk⟩ := hrel
    cases gk with
    | zero =>
      obtain rfl : i = n := by omega
      clear hi hR h
      go_wp2
      go_end0
      exact ⟨rfl, hk⟩
    | succ g =>
      have hil : i < n := by omega
      rcases hR with h0 | ⟨gb, C, rfl, hh, hC⟩
      · omega
      · obtain ⟨y, hc0⟩ : ∃ x, wr.cell? ⟨gb, i, none⟩ = some x := ⟨C[i]'(by omega), by simp [World.cell?, hh]⟩
        have hfr : wr.frozen? ⟨gb, i, none⟩ = false := freeRow hh i
        have HH := Lib.hid hh
        have HC := Lib.hid hC
        have HK := Lib.hid hk
        clear hh hC h hk
        go_wp2
        go_roundg g
        case measure => omega
        case rel => exact ⟨i + 1, by omega, by simp, .inr ⟨gb, _, rfl, rowSet HH.out i _, by simp [HC.out]⟩, HK.out.set _ (by unfold blkS; rw [if_neg (by omega)]; simp) _⟩
set_option maxRecDepth 100000 in
set_option maxHeartbeats 1500000 in
theorem same12_walk (I : World → Prop) (FR : World → Nat → List Nat → Fs → Prop) (F : FOk I FR) (wx : World) (b : Nat) (S : List Nat) (st : Fs) (rb : Nat) (h : FR wx b S st) (q : QR wx rb st) :
    Calls Tryd.prog 11 #[.pointer (some ⟨b, 0, none⟩), .pointer (some ⟨rb, 0, none⟩)] wx fun e w' => e = .returned (.bool true) ∧ Below wx.heap.size wx w' := by
  have HD := Lib.hid (fun x (k : Below wx.heap.size wx x) => F.dead x b S st (F.below h k))
  have HP := Lib.hid (fun x (k : Below wx.heap.size wx x) => F.dropped x b S st (F.below h k))
  have HH := Lib.hid (fun x (k : Below wx.heap.size wx x) => F.held x b S st (F.below h k))
  have hlt : rb < wx.heap.size := lt_of_block q
  have HC := Lib.hid (fun x (k : Below wx.heap.size wx x) => (show x.cell? ⟨rb, 1, none⟩ = some (.string (bs st.hold)) ∧ x.cell? ⟨rb, 2, none⟩ = some (.bool st.s.isNone) ∧ x.cell? ⟨rb, 3, none⟩ = some (.int .i64 (st.dr : Nat)) by
    obtain ⟨_, c1, c2, c3, _⟩ := q.cells
    exact ⟨(k.cell (p := ⟨rb, 1, none⟩) hlt).trans c1, (k.cell (p := ⟨rb, 2, none⟩) hlt).trans c2, (k.cell (p := ⟨rb, 3, none⟩) hlt).trans c3⟩))
  have b0 : Below wx.heap.size wx wx := Below.refl _ _
  have z0 := HC.out _ b0
  clear F h q
  generalize st.hold = H at *
  generalize st.s.isNone = D at *
  generalize st.dr = K9 at *
  go_enter Tryd.func11, Tryd.ntmps11
  go_wp2_with fail
  go_region_held3 (fun x => x.cell? ⟨rb, 1, none⟩ = some (.string (bs H)) ∧ x.cell? ⟨rb, 2, none⟩ = some (.bool D) ∧ x.cell? ⟨rb, 3, none⟩ = some (.int .i64 (K9 : Nat))) (first | exact z0 | exact z1 | exact z2 | exact z3)
    (first
      | (go_at_call 20
         refine (HH.out _ ?_).mono ?_
         exact b2
         rintro e x3 ⟨rfl, k3⟩
         have b3 := b2.trans (k3.mono b2.size)
         have z3 := HC.out _ b3)
      | (go_at_call 23
         refine (HP.out _ ?_).mono ?_
         exact b1
         rintro e x2 ⟨rfl, k2⟩
         have b2 := b1.trans (k2.mono b1.size)
         have z2 := HC.out _ b2)
      | (go_at_call 22
         refine (HD.out _ ?_).mono ?_
         exact ⟨b0.os, b0.tape, b0.output, b0.size, b0.block⟩
         rintro e x1 ⟨rfl, k1⟩
         have b1 : Below wx.heap.size wx x1 := ⟨k1.os, k1.tape, k1.output, k1.size, k1.block⟩
         have z1 := HC.out _ b1))
  all_goals
    go_wp2
    go_ret
    exact ⟨by simp, b3⟩
end Go.Proofs.YtndinelljmjfaaaDoor
