/- oid's write, Text, Encode, Child, walked. -/
import Derived.Test.YtanainpapcblfaaDoorOidU
import Derived.Test.YtanainpapcblfaaDoorOidH
import Derived.Test.YtanainpapcblfaaDoorBlw
import Derived.Test.YtanainpapcblfaaDoorOctB
import Derived.Test.YtanainpapcblfaaDoorOidE
import Derived.Lib.AppendIntMem
namespace Go.Proofs.YtanainpapcblfaaDoor
open Go.ChangeShapes Go.WideShapes Go.ChangeAt Go.RowKit K O6
set_option linter.unusedVariables false

theorem dec_dg : ∀ (f n : Nat), 1 ≤ f → n < 10 ^ f → dg f n = Lib.decDigits n
  | 0, _, h, _ => by omega
  | f + 1, n, _, h => by
    by_cases hn : n < 10
    · rw [dg_small _ n hn, Lib.decDigits_one hn]; rfl
    · have hf : 1 ≤ f := by
        rcases Nat.eq_zero_or_pos f with h0 | h0
        · subst h0; omega
        · exact h0
      rw [dg_big _ n (by omega), Lib.decDigits, dif_neg hn, dec_dg f (n / 10) hf (by rw [Nat.pow_succ] at h; omega)]; rfl
theorem itoa_nm (n : Nat) (hn : n ≤ 9223372036854775807) : Lib.itoa (n : Int) = nm n := by
  unfold Lib.itoa nm
  rw [if_neg (by omega), Int.toNat_natCast]
  exact (dec_dg 20 n (by omega) (by omega)).symm
theorem itoa_walk (n : Nat) (hn : n ≤ 9223372036854775807) (w : World) (h : Tabs w) :
    Calls Tryd.prog 58 #[.int .i64 n] w fun e w' => e = .returned (.string (bs (nm n))) ∧ Below w.heap.size w w' := by
  refine (Tryd.strconv_Itoa n (by omega) (by omega) w h.2.2.2).mono ?_
  rintro e w' ⟨rfl, k, os, rfl⟩
  rw [itoa_nm n hn]
  exact ⟨rfl, Lib.below_grow _ _ (Nat.le_refl _) _ _⟩
theorem bld_fresh (w : World) : Bld w.heap.size w.heap.size [] (w.alloc (.cells #[.pointer none, .slice none 0 0] 51)) :=
  .inl ⟨Nat.le_refl _, _, rowNew w _, World.ownsRow_nil _ _ _ _, by simp [Value.ownBlock]⟩
/-- The state of write's loop: what is written. -/
def WrRel (cs : List Nat) (w : World) (b g : Nat) (v : Value) (wr : World) : Prop :=
  ∃ i, i + g = cs.length ∧ v = .int .i64 (i : Nat) ∧ Bld b b (put (cs.take i)) wr ∧ Below w.heap.size w wr
theorem put_take_len (cs : List Nat) (h : ∀ a ∈ cs, a ≤ 4294967295) (i : Nat) : (put (cs.take i)).length ≤ 11 * cs.length := by
  have h1 := O6.put_len (cs.take i) (fun a ha => h a (List.mem_of_mem_take ha))
  rw [List.length_take] at h1
  have : min i cs.length ≤ cs.length := Nat.min_le_right _ _
  omega
set_option maxRecDepth 100000 in
set_option maxHeartbeats 2000000 in
theorem write_walk (cs : List Nat) (hcs : ∀ a ∈ cs, a ≤ 4294967295) (hn : cs.length ≤ 1000) (ao : Option Addr) (cap : Nat) (w : World) (hr : RdZ w ao cs.length (fz cs)) (T : Tabs w) :
    Calls Tryd.prog 42 #[.slice ao cs.length cap] w fun e w' => e = .returned (.string (bs (put cs))) ∧ Below w.heap.size w w' := by
  have HR := Lib.hid hr
  have HT := Lib.hid T
  have hbf := bld_fresh w
  have hba : Below w.heap.size w (w.alloc (.cells #[.pointer none, .slice none 0 0] 51)) := (Below.refl _ _).alloc (Nat.le_refl _) _
  have HR0 := Lib.hid (show WrRel cs w w.heap.size cs.length (.int .i64 0) (w.alloc (.cells #[.pointer none, .slice none 0 0] 51)) from ⟨0, by omega, rfl, by rw [List.take_zero]; exact hbf, hba⟩)
  have HPL := Lib.hid (fun i => put_take_len cs hcs i)
  have HI := Lib.hid (fun a (ha : a ≤ 9223372036854775807) w1 (h : Tabs w1) => itoa_walk a ha w1 h)
  have HCS := Lib.hid hcs
  clear hr T hbf hba hcs
  go_enter Tryd.func42, Tryd.ntmps42
  go_wp2
  go_loopg [8] cs.length (fun g v wr => WrRel cs w w.heap.size g v wr)
  case atStart => exact HR0.out
  case round =>
    clear HR0
    obtain ⟨i, hig, rfl, hB, hb⟩ := hrel
    cases gk with
    | zero =>
      obtain rfl : i = cs.length := by omega
      rw [List.take_length] at hB
      clear hig
      go_wp2_with fail
      refine (bstr _ _ _ _ hB hb.size).mono ?_
      rintro e w1 ⟨rfl, b1⟩
      have hb2 := hb.trans b1
      clear b1
      go_wp2
      go_ret
      exact ⟨rfl, hb2⟩
    | succ g =>
      have hin : i < cs.length := by omega
      have hx : cs.getD i 0 ≤ 4294967295 := HCS.out _ (by simp [List.getD, List.getElem?_eq_getElem hin])
      rcases HR.out.below hb with h0 | ⟨rb, off, rfl, hrb, hrc⟩
      · omega
      · have hcell := hrc i hin
        have hpl := HPL.out i
        have hnl := nm_len (cs.getD i 0) (by omega)
        unfold fz at hcell
        rcases Nat.eq_zero_or_pos i with h0 | h0
        · subst h0
          have hpf := put_first cs hin
          have HPF := Lib.hid hpf
          rw [List.take_zero] at hB
          rw [Nat.add_zero] at hcell
          clear hpf hrc
          generalize hX : cs.getD 0 0 = X at *
          clear hX
          go_wp2_with fail
          refine (HI.out X (by omega) wr (HT.out.below hb)).mono ?_
          rintro e w1 ⟨rfl, d1⟩
          have B1 := bld_below hB d1
          have b1 := hb.trans (d1.mono hb.size)
          clear d1 hB hb
          go_wp2_with fail
          refine (wstr _ _ _ (nm X) w1 B1 (by simp [put]; omega) b1.size).mono ?_
          rintro e w2 ⟨rfl, B2, k2, -⟩
          have b2 := b1.trans k2
          clear b1 k2 B1
          go_wp2
          go_roundg g
          case measure => omega
          case rel => exact ⟨1, by omega, by simp, by rw [HPF.out]; exact B2, b2⟩
        · have hi0 : (0 : Int) < (i : Nat) := by omega
          have HPS := Lib.hid (put_snoc cs i hin h0)
          clear hrc
          generalize hX : cs.getD i 0 = X at *
          clear hX
          generalize put (cs.take i) = PT at *
          go_wp2_with fail
          refine (wstr _ _ PT [46] wr hB (by simp; omega) hb.size).mono ?_
          rintro e w1 ⟨rfl, B1, k1, -⟩
          have b1 := hb.trans k1
          clear hb k1 hB
          go_wp2_with fail
          refine (HI.out X (by omega) w1 (HT.out.below b1)).mono ?_
          rintro e w2 ⟨rfl, d2⟩
          have B2 := bld_below B1 d2
          have b2 := b1.trans (d2.mono b1.size)
          clear d2 B1 b1
          go_wp2_with fail
          refine (wstr _ _ _ (nm X) w2 B2 (by simp; omega) b2.size).mono ?_
          rintro e w3 ⟨rfl, B3, k3, -⟩
          have b3 := b2.trans k3
          clear b2 k3 B2
          go_wp2
          go_roundg g
          case measure => omega
          case rel => exact ⟨i + 1, by omega, by simp, by rw [HPS.out]; exact B3, b3⟩
set_option maxRecDepth 100000 in
set_option maxHeartbeats 1000000 in
theorem text_walk (ao : Option Addr) (n cap : Nat) (f : Nat → Int) (w : World) (cs : List Nat) (hn : n ≤ 140737488351232) (hr : RdZ w ao n f) (hc : isZ n f = true → n = cs.length ∧ isArcs cs = true ∧ ∀ i, i < n → f i = fz cs i) (T : Tabs w) :
    Calls Tryd.prog 17 #[.slice ao n cap] w fun e w' => e = .returned (.tuple #[.string (bs (if isZ n f then put cs else [])), .int .i64 ((if isZ n f then 0 else 60 : Nat) : Nat)]) ∧ Below w.heap.size w w' := by
  have HA := Lib.hid (areArcs_walk ao n cap f hn w hr)
  cases hz : isZ n f
  · rw [hz] at HA
    simp only [Bool.false_eq_true, if_false]
    clear hc hz
    go_enter Tryd.func17, Tryd.ntmps17
    go_wp2_with fail
    refine HA.out.mono ?_
    rintro e w1 ⟨rfl, q, rfl⟩
    go_wp2
    go_ret2
    exact ⟨rfl, Below_drewNg (Below.refl _ _) q⟩
  · obtain ⟨rfl, hia, hf⟩ := hc hz
    rw [hz] at HA
    have hl := isArcs_len hia
    have hr2 : RdZ w ao cs.length (fz cs) := by
      rcases hr with h0 | ⟨b, off, h1, h2, h3⟩
      · exact .inl h0
      · exact .inr ⟨b, off, h1, h2, fun i hi => by rw [← hf i hi]; exact h3 i hi⟩
    have HW := Lib.hid (fun w1 (h : RdZ w1 ao cs.length (fz cs)) (t : Tabs w1) => write_walk cs (isArcs_le hia) (by omega) ao cap w1 h t)
    simp only [if_true]
    clear hc hz hf hia
    go_enter Tryd.func17, Tryd.ntmps17
    go_wp2_with fail
    refine HA.out.mono ?_
    rintro e w1 ⟨rfl, q, rfl⟩
    have b1 := Below_drewNg (Below.refl w.heap.size w) q
    have hr3 := hr2.below b1
    have t3 := T.below b1
    generalize w.drewN q = w1 at *
    go_wp2_with fail
    refine (HW.out w1 hr3 t3).mono ?_
    rintro e w2 ⟨rfl, d2⟩
    go_wp2
    go_ret2
    exact ⟨rfl, b1.trans (d2.mono b1.size)⟩
end Go.Proofs.YtanainpapcblfaaDoor
