/- FrameDead, walked on calls that keep their word. -/
import Derived.Test.YtndinelljmjfaaaFrmW
import Derived.Test.YtndinelljmjfaaaShelf
import Derived.Lib.Strings
namespace Go.Proofs.Ytndinelljmjfaaa
open Go.ChangeShapes Go.WideShapes Go.ChangeAt Go.RowKit K F12
set_option linter.unusedVariables false

def ex5 : Fs := ⟨5, some [], 0⟩
def c5 : List UInt8 := [49, 32, 97, 54, 120, 120, 120]
theorem ex5_msg : ex5.msg c5 = [[97]] ∧ ex5.code c5 = 120 ∧ ex5.nxt c5 = ⟨5, none, 0⟩ := by
  refine ⟨by decide +kernel, by decide +kernel, ?_⟩
  have : (ex5.nxt c5).s = none := by decide +kernel
  unfold Fs.nxt ex5 at this ⊢
  simp only at this ⊢
  rw [this]
def FdRel (FR : World → Nat → List Nat → Fs → Prop) (n : Nat) (b : Nat) (w : World) (g : Nat) (v : Value) (wr : World) : Prop :=
  ∃ i S, i + g = n ∧ i ≤ 100 ∧ v = .int .i64 (i : Nat) ∧ FR wr b S ⟨5, none, i⟩ ∧ (∀ x ∈ S, w.heap.size ≤ x) ∧ Below w.heap.size w wr
theorem dead_msg (i : Nat) (c : List UInt8) : (⟨5, none, i⟩ : Fs).msg c = [] ∧ (⟨5, none, i⟩ : Fs).code c = 120 ∧ (⟨5, none, i⟩ : Fs).nxt c = ⟨5, none, i + 1⟩ := ⟨rfl, rfl, rfl⟩
set_option maxRecDepth 100000 in
set_option maxHeartbeats 1500000 in
theorem frameDead_walk (I : World → Prop) (FR : World → Nat → List Nat → Fs → Prop) (F : FOk I FR) (ls : List (List UInt8)) (ao : Option Addr) (cap : Nat) (hn : ls.length ≤ 140737488351232) (hls : ∀ x ∈ ls, x.length ≤ 140737488355327) (w : World) (hw : I w) (hr : RdS w ao ls) :
    Calls Try.prog 4 #[.slice ao ls.length cap] w fun e w' => e = .returned (.bool true) ∧ Below w.heap.size w w' := by
  have HF := Lib.hid F
  have HI := Lib.hid (fun wx (b : Below w.heap.size w wx) => F.keepI w wx hw b)
  have HR := Lib.hid (fun wx (b : Below w.heap.size w wx) => hr.below b)
  have HLS := Lib.hid hls
  have HW := Lib.hid (works12_walk I FR F w hw)
  clear F hw hr hls
  go_enter Try.func4, Try.ntmps4
  go_wp2_with fail
  refine HW.out.mono ?_
  rintro e w1 ⟨rfl, b1⟩
  go_wp2_with fail
  refine (HF.out.new_ok 5 w1 (by omega) (by omega) (HI.out _ b1)).mono ?_
  rintro e w2 ⟨b, S, rfl, h2, hS, d2⟩
  have b2 := b1.trans (d2.mono b1.size)
  have hS2 : ∀ x ∈ S, w.heap.size ≤ x := fun x hx => Nat.le_trans b1.size (hS x hx)
  clear hS d2 b1
  go_wp2_with fail
  have hrep := Try.strings_Repeat (bs [120]) 3 w2 (by omega) (by decide)
  have hrl : (⟨(Lib.repeatL (bs [120]).data.toList 3).toArray⟩ : ByteArray) = bs [120, 120, 120] := by rw [bs_toList]; rfl
  rw [hrl] at hrep
  refine hrep.mono ?_
  rintro e w3 ⟨rfl, d3⟩
  have h3 := HF.out.below h2 d3
  have b3 := b2.trans (d3.mono b2.size)
  obtain ⟨m1, m2, m3⟩ := ex5_msg
  have hfd := fun (hi : I w3) => HF.out.feed w3 b S ex5 c5 hi h3 (.inr (by decide)) (by decide) (by decide)
  unfold FdPost at hfd
  rw [m1, m2, m3] at hfd
  have hcc : bs c5 = ({ data := #[49, 32, 97, 54] } : ByteArray) ++ bs [120, 120, 120] := rfl
  rw [hcc] at hfd
  have HFD := Lib.hid (hfd (HI.out _ b3))
  clear hrep hrl d3 h2 hfd hcc m1 m2 m3 b2
  go_wp2_with fail
  refine HFD.out.mono ?_
  rintro e w4 ⟨a4, c4, S4, rfl, h4, hS4, r4, n4, -, k4, -⟩
  have b4 := kp_new b3 k4 hS2
  have hS4' : ∀ x ∈ S4, w.heap.size ≤ x := fun x hx => (hS4 x hx).elim (hS2 x) (fun h => Nat.le_trans b3.size h)
  clear k4 hS4 n4 h3 b3 hS2
  go_wp2_with fail
  have q1 := rds_one w4 [97]
  have a1 := (Below.refl w4.heap.size w4).alloc (Nat.le_refl _) (.cells #[.string (bs [97])] 9)
  have p1 := r4.below a1
  have h5 := HF.out.below h4 a1
  have b5 := b4.trans (a1.mono b4.size)
  clear r4 h4 a1 b4
  refine (sametexts_walk [[97]] (by decide) a4 _ c4 1 _ p1 q1).mono ?_
  rintro e w5 ⟨rfl, m5, rfl⟩
  have h6 := HF.out.below h5 (Below_drewT (Below.refl _ _) m5)
  have b6 := Below_drewT b5 m5
  clear p1 q1 h5 b5
  generalize (w4.alloc (.cells #[.string (bs [97])] 9)).drewN m5 = w6 at *
  go_wp2_with fail
  go_loopg [7] ls.length (fun g v wr => FdRel FR ls.length b w g v wr)
  case atStart => exact ⟨0, S4, by omega, by omega, rfl, h6, hS4', b6⟩
  case round =>
    obtain ⟨i, S, hg, hi, rfl, h, hS, hb⟩ := hrel
    clear h6 hS4' b6
    have HB := Lib.hid hb
    have HS := Lib.hid hS
    clear hb hS
    have fin : ∀ wx, FR wx b S ⟨5, none, i⟩ → Calls Try.prog 12 #[.pointer (some ⟨b, 0, none⟩)] wx fun e w' => e = .returned (.bool true) ∧ Below wx.heap.size wx w' := fun wx hx => HF.out.dead wx b S _ hx
    have HFIN := Lib.hid fin
    clear fin
    by_cases hex : i < ls.length ∧ i < 100
    rotate_left
    · have H := Lib.hid h
      by_cases h1 : i < ls.length
      · have e1 : ((i : Nat) : Int) < ((ls.length : Nat) : Int) := by omega
        have e2 : ¬ ((i : Nat) : Int) < 100 := by omega
        clear h hex h1
        go_wp2_with fail
        refine (HFIN.out _ H.out).mono ?_
        rintro e w7 ⟨rfl, d7⟩
        go_wp2
        go_ret
        exact ⟨rfl, HB.out.trans (d7.mono HB.out.size)⟩
      · have e1 : ¬ ((i : Nat) : Int) < ((ls.length : Nat) : Int) := by omega
        clear h hex h1
        go_wp2_with fail
        refine (HFIN.out _ H.out).mono ?_
        rintro e w7 ⟨rfl, d7⟩
        go_wp2
        go_ret
        exact ⟨rfl, HB.out.trans (d7.mono HB.out.size)⟩
    obtain ⟨hil, hi1⟩ := hex
    obtain ⟨g, rfl⟩ : ∃ g, gk = g + 1 := ⟨gk - 1, by omega⟩
    have e1 : ((i : Nat) : Int) < ((ls.length : Nat) : Int) := by omega
    have e2 : ((i : Nat) : Int) < 100 := by omega
    obtain ⟨x, hx⟩ : ∃ x, ls.getD i [] = x := ⟨_, rfl⟩
    have hxl : x.length ≤ 140737488355327 := HLS.out x (by rw [← hx, List.getD_eq_getElem?_getD, List.getElem?_eq_getElem hil]; exact List.getElem_mem hil)
    obtain ⟨c, off, rfl, hc, hcell⟩ := (HR.out wr HB.out).at hil hx
    obtain ⟨m1, m2, m3⟩ := dead_msg i x
    have hfd := HF.out.feed wr b S ⟨5, none, i⟩ x (HI.out _ HB.out) h (.inl rfl) hxl (by show i ≤ _; omega)
    unfold FdPost at hfd
    rw [m1, m2, m3] at hfd
    have HFD2 := Lib.hid hfd
    clear hfd m1 m2 m3 hx h
    go_wp2_with fail
    refine HFD2.out.mono ?_
    rintro e w7 ⟨a7, c7, S7, rfl, h7, hS7, -, -, -, k7, -⟩
    have b7 := kp_new HB.out k7 HS.out
    have hS7' : ∀ x ∈ S7, w.heap.size ≤ x := fun x hx => (hS7 x hx).elim (HS.out x) (fun h => Nat.le_trans HB.out.size h)
    have HS7 := Lib.hid hS7'
    have HDE := Lib.hid (HF.out.dead w7 b S7 _ h7)
    clear k7 hS7 hS7' hcell
    go_wp2_with fail
    refine HDE.out.mono ?_
    rintro e w8 ⟨rfl, d8⟩
    have h8 := HF.out.below h7 d8
    have b8 := b7.trans (d8.mono b7.size)
    have HDR := Lib.hid (HF.out.dropped w8 b S7 _ h8)
    clear d8 h7 b7 HDE
    go_wp2_with fail
    refine HDR.out.mono ?_
    rintro e w9 ⟨rfl, d9⟩
    have h9 := HF.out.below h8 d9
    have b9 := b8.trans (d9.mono b8.size)
    have HHE := Lib.hid (HF.out.held w9 b S7 _ h9)
    clear d9 h8 b8 HDR
    go_wp2_with fail
    refine HHE.out.mono ?_
    rintro e w10 ⟨rfl, d10⟩
    have H10 := Lib.hid (HF.out.below h9 d10)
    have B10 := Lib.hid (b9.trans (d10.mono b9.size))
    clear d10 h9 b9 HHE
    go_wp2
    go_roundg g
    case measure => omega
    case rel => exact ⟨i + 1, S7, by omega, by omega, by simp, H10.out, HS7.out, B10.out⟩
end Go.Proofs.Ytndinelljmjfaaa
