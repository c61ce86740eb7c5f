/- FrameCuts, walked on calls that keep their word. -/
import Derived.Test.YtndinelljmjfaaaFrmC
import Derived.Test.YtndinelljmjfaaaArg
namespace Go.Proofs.Ytndinelljmjfaaa
open Go.ChangeShapes Go.WideShapes Go.ChangeAt Go.RowKit K F12
set_option linter.unusedVariables false

set_option maxRecDepth 100000 in
set_option maxHeartbeats 2000000 in
theorem frameCuts_walk (I : World → Prop) (FR : World → Nat → List Nat → Fs → Prop) (F : FOk I FR) (most : Int) (h0 : -9223372036854775808 ≤ most) (h1 : most ≤ 9223372036854775807) (s : List UInt8) (hs : s.length ≤ 140737488351232) (n : Nat) (ao : Option Addr) (cap : Nat) (ns : Nat → Int) (w : World) (hw : I w) (hr : Nums .i64 w ao n ns) :
    Calls Try.prog 3 #[.int .i64 most, .string (bs s), .slice ao n cap] w fun e w' => e = .returned (.bool true) ∧ Below w.heap.size w w' := by
  obtain ⟨hn, hrow, hwf⟩ := hr
  have HW := Lib.hid (works12_walk I FR F w hw)
  have HI := Lib.hid (fun wx (b : Below w.heap.size w wx) => F.keepI w wx hw b)
  have hb := belowN_bounds most 300 (by omega)
  have HBL := Lib.hid (fun wx => below_walk most 300 h0 h1 (by omega) (by omega) wx)
  obtain ⟨k, hk⟩ : ∃ k : Nat, belowN most 300 = ((k : Nat) : Int) := ⟨(belowN most 300).toNat, by omega⟩
  rw [hk] at HBL hb
  have hk3 : k < 300 := by omega
  by_cases hbig : 2000 < s.length
  · have e1 : (2000 : Int) < ((s.length : Nat) : Int) := by omega
    clear hb hk hk3 hbig hrow hwf
    go_enter Try.func3, Try.ntmps3
    go_wp2_with fail
    refine HW.out.mono ?_
    rintro e w1 ⟨rfl, b1⟩
    go_wp2
    go_ret
    exact ⟨rfl, b1⟩
  have e1 : ¬ (2000 : Int) < ((s.length : Nat) : Int) := by omega
  by_cases hmany : 30 < n
  · have e2 : (30 : Int) < ((n : Nat) : Int) := by omega
    clear hb hk hk3 hbig hrow hwf hmany
    go_enter Try.func3, Try.ntmps3
    go_wp2_with fail
    refine HW.out.mono ?_
    rintro e w1 ⟨rfl, b1⟩
    go_wp2
    go_ret
    exact ⟨rfl, b1⟩
  have e2 : ¬ (30 : Int) < ((n : Nat) : Int) := by omega
  have hcl : ∀ wx, Below w.heap.size w wx → ∀ wy, Below wx.heap.size wx wy → n = 0 ∨ ∃ c off, ao = some ⟨c, off, none⟩ ∧ ∀ i, i < n → wy.cell? ⟨c, off + i, none⟩ = some (.int .i64 (ns i)) := by
    intro wx hx wy hy
    rcases hrow with h | ⟨c, off, ha, hc, hcc⟩
    · exact .inl h
    · refine .inr ⟨c, off, ha, fun i hi => ?_⟩
      have hb2 := hx.trans (hy.mono hx.size)
      exact (hb2.cell (p := ⟨c, off + i, none⟩) hc).trans (hcc i hi)
  have hF1 := fun wx (b : Below w.heap.size w wx) => fed12_walk I FR F (1 + k) (by omega) (by omega) s (by omega) 0 none 0 (fun _ => 0) (by omega) (fun i hi => by omega) wx (HI.out wx b) (fun _ _ => .inl rfl)
  have hF2 := fun wx (b : Below w.heap.size w wx) => fed12_walk I FR F (1 + k) (by omega) (by omega) s (by omega) n ao cap ns (by omega) (fun i hi => by have := hwf i; simp [Lit.wf, IntKind.min, IntKind.max, IntKind.bits, IntKind.signed] at this; omega) wx (HI.out wx b) (fun wy hy => hcl wx b wy hy)
  unfold FcPost at hF1 hF2
  have hfl := feed_len (1 + k) _ s (Nat.le_refl _)
  have hln : (feed (1 + k) s).1.length ≤ 1000000 := by omega
  have hkk : (((1 + k : Nat)) : Int) = 1 + ((k : Nat) : Int) := by omega
  rw [hkk] at hF1 hF2
  generalize (feed (1 + k) s).1 = ms at *
  generalize (feed (1 + k) s).2 = o at *
  have hhl : (0 : Int) ≤ ((o.getD []).length : Nat) := by omega
  generalize (o.getD []).length = H at *
  generalize o.isNone = D at *
  have HF1 := Lib.hid hF1
  have HF2 := Lib.hid hF2
  have HLN := Lib.hid hln
  clear hF1 hF2 hcl hrow hwf hb hk hbig hmany hfl hln F hw hkk
  go_enter Try.func3, Try.ntmps3
  go_wp2_with fail
  refine HW.out.mono ?_
  rintro e w1 ⟨rfl, b1⟩
  go_wp2_with fail
  refine (HBL.out _).mono ?_
  rintro e w2 ⟨rfl, rfl⟩
  go_wp2_with fail
  refine (HF1.out _ b1).mono ?_
  rintro e w3 ⟨a3, c3, rfl, r3, d3⟩
  have b3 := b1.trans (d3.mono b1.size)
  clear d3
  go_wp2_with fail
  refine (HF2.out _ b3).mono ?_
  rintro e w4 ⟨a4, c4, rfl, r4, d4⟩
  have b4 := b3.trans (d4.mono b3.size)
  have r3 := r3.below d4
  clear d4
  go_wp2_with fail
  refine (sametexts_walk ms HLN.out a3 a4 c3 c4 _ r3 r4).mono ?_
  rintro e w5 ⟨rfl, m5, rfl⟩
  go_wp2
  go_ret
  exact ⟨rfl, Below_drewT b4 m5⟩
end Go.Proofs.Ytndinelljmjfaaa
