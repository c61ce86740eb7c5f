/- The laws of frames, on calls that keep their word: works. -/
import Derived.Test.YtndinelljmjfaaaDoorFrmR
import Derived.Test.YtndinelljmjfaaaDoorBok
namespace Go.Proofs.YtndinelljmjfaaaDoor
open Go.ChangeShapes Go.WideShapes Go.ChangeAt Go.RowKit K F12
set_option linter.unusedVariables false

theorem rds_kp {w w' : World} {ao : Option Addr} {ls : List (List UInt8)} (h : RdS w ao ls) {S : List Nat} (k : Kp S w w') (hn : ∀ a, ao = some a → a.block ∉ S) : RdS w' ao ls := by
  rcases h with h0 | ⟨b, off, ha, hb, hc⟩
  · exact .inl h0
  · exact .inr ⟨b, off, ha, Nat.lt_of_lt_of_le hb k.size, fun i hi => k.cell (p := ⟨b, off + i, none⟩) (hc i hi) (hn ⟨b, off, none⟩ ha)⟩
theorem Below_drewT {B : Nat} {a b : World} (h : Below B a b) (n : Nat) : Below B a (b.drewN n) := ⟨h.os, h.tape, h.output, h.size, h.block⟩
def frS (m : List UInt8) : List UInt8 := if m.length = 0 then [] else if 65535 < m.length then [] else frm m
def frE (m : List UInt8) : Nat := if m.length = 0 then 1 else if 65535 < m.length then 2 else 0
/-- What Feed leaves. -/
def FdPost (FR : World → Nat → List Nat → Fs → Prop) (w : World) (b : Nat) (S : List Nat) (st : Fs) (c : List UInt8) (e : Ending) (w' : World) : Prop :=
  ∃ ao cap S', e = .returned (.tuple #[.slice ao (st.msg c).length cap, .int .i64 (st.code c : Nat)]) ∧ FR w' b S' (st.nxt c) ∧ (∀ x ∈ S', x ∈ S ∨ w.heap.size ≤ x) ∧ RdS w' ao (st.msg c) ∧ (∀ a, ao = some a → w.heap.size ≤ a.block ∧ a.block ∉ S') ∧ ((ao = none ∧ (st.msg c).length = 0 ∧ cap = 0) ∨ ∃ a, ao = some a) ∧ Kp S w w' ∧ OwnS w' w.heap.size 9 (.slice ao (st.msg c).length cap) (st.msg c)
/-- What the program's calls are known to answer, in any world of which I; FR: how a framer lies in a world, in these blocks. -/
structure FOk (I : World → Prop) (FR : World → Nat → List Nat → Fs → Prop) : Prop where
  keepI : ∀ a b, I a → Below a.heap.size a b → I b
  keep : ∀ {w w' : World} {b : Nat} {S T : List Nat} {st : Fs}, FR w b S st → Kp T w w' → (∀ x ∈ S, x ∉ T) → FR w' b S st
  lt : ∀ {w : World} {b : Nat} {S : List Nat} {st : Fs}, FR w b S st → ∀ x ∈ S, x < w.heap.size
  new_ok : ∀ (n : Nat) (w : World), 1 ≤ n → n ≤ 65535 → I w → Calls Tryd.prog 5 #[.int .i64 (n : Nat)] w fun e w' => ∃ b S, e = .returned (.tuple #[.pointer (some ⟨b, 0, none⟩), .int .i64 0]) ∧ FR w' b S ⟨n, some [], 0⟩ ∧ (∀ x ∈ S, w.heap.size ≤ x) ∧ Below w.heap.size w w'
  new_no : ∀ (n : Int) (w : World), (n < 1 ∨ 65535 < n) → I w → Calls Tryd.prog 5 #[.int .i64 n] w fun e w' => e = .returned (.tuple #[.pointer none, .int .i64 1]) ∧ Below w.heap.size w w'
  feed : ∀ (w : World) (b : Nat) (S : List Nat) (st : Fs) (c : List UInt8), I w → FR w b S st → (st.s = none ∨ st.hold.length + c.length ≤ 1000000) → c.length ≤ 140737488355327 → st.dr ≤ 1000000000000000 → Calls Tryd.prog 12 #[.pointer (some ⟨b, 0, none⟩), .string (bs c)] w (FdPost FR w b S st c)
  dead : ∀ (w : World) (b : Nat) (S : List Nat) (st : Fs), FR w b S st → Calls Tryd.prog 22 #[.pointer (some ⟨b, 0, none⟩)] w fun e w' => e = .returned (.bool st.s.isNone) ∧ Below w.heap.size w w'
  dropped : ∀ (w : World) (b : Nat) (S : List Nat) (st : Fs), FR w b S st → Calls Tryd.prog 23 #[.pointer (some ⟨b, 0, none⟩)] w fun e w' => e = .returned (.int .i64 (st.dr : Nat)) ∧ Below w.heap.size w w'
  held : ∀ (w : World) (b : Nat) (S : List Nat) (st : Fs), FR w b S st → Calls Tryd.prog 20 #[.pointer (some ⟨b, 0, none⟩)] w fun e w' => e = .returned (.int .i64 (st.hold.length : Nat)) ∧ Below w.heap.size w w'
/-- The same, with Fork and Frame. -/
structure FOkF (I : World → Prop) (FR : World → Nat → List Nat → Fs → Prop) : Prop extends FOk I FR where
  fork : ∀ (w : World) (b : Nat) (S : List Nat) (st : Fs), I w → FR w b S st → Calls Tryd.prog 10 #[.pointer (some ⟨b, 0, none⟩)] w fun e w' => ∃ b' S', e = .returned (.pointer (some ⟨b', 0, none⟩)) ∧ FR w' b' S' st ∧ (∀ x ∈ S', w.heap.size ≤ x) ∧ Below w.heap.size w w'
  frame : ∀ (m : List UInt8) (w : World), m.length ≤ 100000 → I w → Calls Tryd.prog 7 #[.string (bs m)] w fun e w' => e = .returned (.tuple #[.string (bs (frS m)), .int .i64 (frE m : Nat)]) ∧ Below w.heap.size w w'
theorem FOk.below {I : World → Prop} {FR : World → Nat → List Nat → Fs → Prop} (F : FOk I FR) {w w' : World} {b : Nat} {S : List Nat} {st : Fs} (h : FR w b S st) (k : Below w.heap.size w w') : FR w' b S st :=
  F.keep (T := []) h (Kp.ofBelow k []) (fun _ _ => by simp)
def ex1 : Fs := ⟨10, some [], 0⟩
def c1 : List UInt8 := [51, 32, 97, 98, 99, 50, 32, 120]
def c2 : List UInt8 := [121, 53]
theorem ex1_msg : ex1.msg c1 = [[97, 98, 99]] ∧ (ex1.nxt c1).msg c2 = [[120, 121]] ∧ ex1.code c1 = 0 ∧ (ex1.nxt c1).code c2 = 0 ∧ ((ex1.nxt c1).nxt c2).hold = [53] := by decide +kernel
theorem bel_trans {a b c : World} (h : Below a.heap.size a b) (k : Below b.heap.size b c) : Below a.heap.size a c := h.trans (k.mono h.size)
theorem kp_new {a b c : World} {S : List Nat} (h : Below a.heap.size a b) (k : Kp S b c) (hS : ∀ x ∈ S, a.heap.size ≤ x) : Below a.heap.size a c := h.trans (k.below h.size hS)
set_option maxRecDepth 100000 in
set_option maxHeartbeats 4000000 in
theorem works12_walk (I : World → Prop) (FR : World → Nat → List Nat → Fs → Prop) (F : FOk I FR) (w : World) (hw : I w) :
    Calls Tryd.prog 9 #[] w fun e w' => e = .returned (.bool true) ∧ Below w.heap.size w w' := by
  have HF := Lib.hid F
  have HI := Lib.hid (fun wx (b : Below w.heap.size w wx) => F.keepI w wx hw b)
  have HN := Lib.hid (F.new_ok 10 w (by omega) (by omega) hw)
  obtain ⟨m1, m2, m3, m4, m5⟩ := ex1_msg
  have HC1 : bs c1 = ({ data := #[51, 32, 97, 98, 99, 50, 32, 120] } : ByteArray) := rfl
  have HC2 : bs c2 = ({ data := #[121, 53] } : ByteArray) := rfl
  have hfd1 := fun wx b S (hi : I wx) (h : FR wx b S ex1) => F.feed wx b S ex1 c1 hi h (.inr (by decide)) (by decide) (by decide)
  have hfd2 := fun wx b S (hi : I wx) (h : FR wx b S (ex1.nxt c1)) => F.feed wx b S (ex1.nxt c1) c2 hi h (.inr (by decide)) (by decide) (by decide)
  unfold FdPost at hfd1 hfd2
  rw [m1, m3] at hfd1
  rw [m2, m4] at hfd2
  rw [HC1] at hfd1
  rw [HC2] at hfd2
  have HF1 := Lib.hid hfd1
  have HF2 := Lib.hid hfd2
  have HM5 := Lib.hid m5
  clear hfd1 hfd2 m1 m2 m3 m4 m5 HC1 HC2 F hw
  go_enter Tryd.func9, Tryd.ntmps9
  go_wp2_with fail
  refine HN.out.mono ?_
  rintro e w1 ⟨b, S, rfl, h1, hS, b1⟩
  have HI1 := Lib.hid (HI.out _ b1)
  go_wp2_with fail
  refine (HF1.out _ b S HI1.out h1).mono ?_
  rintro e w2 ⟨ao, ca, S2, rfl, h2, hS2, r2, n2, -, k2, -⟩
  have b2 := kp_new b1 k2 hS
  have HI2 := Lib.hid (HI.out _ b2)
  have hS2' : ∀ x ∈ S2, w.heap.size ≤ x := fun x hx => (hS2 x hx).elim (hS x) (fun h => Nat.le_trans b1.size h)
  clear k2 h1
  go_wp2_with fail
  refine (HF2.out _ b S2 HI2.out h2).mono ?_
  rintro e w3 ⟨bo, cb, S3, rfl, h3, hS3, r3, n3, -, k3, -⟩
  have b3 := kp_new b2 k3 hS2'
  have r2 := rds_kp r2 k3 (fun a ha => (n2 a ha).2)
  clear k3 h2
  go_wp2_with fail
  have q1 := rds_one w3 [97, 98, 99]
  have a1 := (Below.refl w3.heap.size w3).alloc (Nat.le_refl _) (.cells #[.string (bs [97, 98, 99])] 9)
  have p1 := r2.below a1
  have r3' := r3.below a1
  have h4 := HF.out.below h3 a1
  have b4 := b3.trans (a1.mono b3.size)
  clear r2 r3 h3 a1 n2 n3 hS2 hS3 hS hS2'
  refine (sametexts_walk [[97, 98, 99]] (by decide) ao _ ca 1 _ p1 q1).mono ?_
  rintro e w5 ⟨rfl, m5, rfl⟩
  have r5 : RdS ((w3.alloc (.cells #[.string (bs [97, 98, 99])] 9)).drewN m5) bo [[120, 121]] := r3'
  have h5 := HF.out.below h4 (Below_drewT (Below.refl _ _) m5)
  have b5 := Below_drewT b4 m5
  clear p1 q1 r3' h4 b4
  generalize (w3.alloc (.cells #[.string (bs [97, 98, 99])] 9)).drewN m5 = w5 at *
  go_wp2_with fail
  have q1 := rds_one w5 [120, 121]
  have a1 := (Below.refl w5.heap.size w5).alloc (Nat.le_refl _) (.cells #[.string (bs [120, 121])] 9)
  have p1 := r5.below a1
  have h6 := HF.out.below h5 a1
  have b6 := b5.trans (a1.mono b5.size)
  clear r5 h5 a1
  refine (sametexts_walk [[120, 121]] (by decide) bo _ cb 1 _ p1 q1).mono ?_
  rintro e w7 ⟨rfl, m7, rfl⟩
  have h7 := HF.out.below h6 (Below_drewT (Below.refl _ _) m7)
  have b7 := Below_drewT b6 m7
  clear p1 q1 h6 b6
  generalize (w5.alloc (.cells #[.string (bs [120, 121])] 9)).drewN m7 = w7 at *
  have HH := HF.out.held w7 b S3 _ h7
  rw [HM5.out] at HH
  have HHH := Lib.hid HH
  clear HH h7
  go_wp2_with fail
  refine HHH.out.mono ?_
  rintro e w8 ⟨rfl, d8⟩
  have b8 := b7.trans (d8.mono b7.size)
  go_wp2
  go_ret
  exact ⟨rfl, b8⟩
end Go.Proofs.YtndinelljmjfaaaDoor
