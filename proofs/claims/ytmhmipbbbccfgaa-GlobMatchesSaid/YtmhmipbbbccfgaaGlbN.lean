/- The document's Matches, walked. -/
import Derived.Test.YtmhmipbbbccfgaaGlbM
import Derived.Test.YtmhmipbbbccfgaaGlbL
namespace Go.Proofs.Ytmhmipbbbccfgaa
open Go.ChangeShapes Go.WideShapes Go.ChangeAt Go.RowKit K G13
set_option linter.unusedVariables false

theorem RdG.at {w : World} {ao : Option Addr} {l : List Pc} (h : RdG w ao l) {k : Nat} (hk : k < l.length) : ∃ g, ao = some ⟨g, 0, none⟩ ∧ g < w.heap.size ∧ w.cell? ⟨g, k * 258, none⟩ = some (.bool (l.getD k .any).isAny) ∧ w.cell? ⟨g, k * 258 + 1, none⟩ = some (.bool (ownP (l.getD k .any))) ∧ ∀ j, j < 256 → w.cell? ⟨g, k * 258 + 2 + j, none⟩ = some (.bool (hitN (l.getD k .any) j)) := by
  rcases h with h | ⟨g, h1, h2, h3⟩
  · omega
  · have a0 := h3 k hk 0 (by omega)
    rw [Nat.add_zero] at a0
    refine ⟨g, h1, h2, a0.trans (rowP_0 _ _ _), (h3 k hk 1 (by omega)).trans (rowP_1 _ _ _), fun j hj => ?_⟩
    rw [show k * 258 + 2 + j = k * 258 + (2 + j) by omega]
    exact (h3 k hk (2 + j) (by omega)).trans (rowP_2 _ _ _ hj)
theorem any_of {p : Pc} (h : p.isAny = true) : p = .any := by cases p <;> first | rfl | cases h
/-- The rounds over the pieces, and over the places. -/
def MtRel (l : List Pc) (s : List UInt8) (w : World) (g : Nat) (v5 v6 : Value) (wx : World) : Prop :=
  ∃ k rb, k + g = l.length ∧ v6 = .int .i64 (k : Nat) ∧ v5 = .slice (some ⟨rb, 0, none⟩) (s.length + 1) (s.length + 1) ∧ w.heap.size ≤ rb ∧ BRw wx rb (s.length + 1) (rc (l.take k) s) ∧ Below w.heap.size w wx
def MiRel (L L' : List Pc) (s : List UInt8) (wx : World) (rb : Nat) (g : Nat) (v8 : Value) (wy : World) : Prop :=
  ∃ i, i + g = s.length + 1 ∧ v8 = .int .i64 (i : Nat) ∧ BRw wy wx.heap.size (s.length + 1) (fun j => decide (j < i) && rc L' s j) ∧ BRw wy rb (s.length + 1) (rc L s) ∧ Below wx.heap.size wx wy
theorem mi_step {L' : List Pc} {s : List UInt8} {wx wy : World} {i : Nat} {b : Bool} (h : BRw wy wx.heap.size (s.length + 1) (fun j => decide (j < i) && rc L' s j)) (e : rc L' s i = b) : BRw (wy.setCell ⟨wx.heap.size, i, none⟩ (.bool b)) wx.heap.size (s.length + 1) (fun j => decide (j < i + 1) && rc L' s j) := by
  refine (h.set b).congr fun j hj => ?_
  by_cases hji : j = i
  · subst hji; simp [e]
  · rw [if_neg hji]
    congr 1
    rw [decide_eq_decide]; omega
theorem take_next (l : List Pc) {k : Nat} (h : k < l.length) : l.take (k + 1) = l.take k ++ [l.getD k .any] := by
  rw [List.take_succ_eq_append_getElem h]
  simp [List.getD, List.getElem?_eq_getElem h]
set_option maxRecDepth 100000 in
set_option maxHeartbeats 1000000 in
theorem qmatches_walk (l : List Pc) (ao : Option Addr) (cap : Nat) (s : List UInt8) (hs : s.length ≤ 10000) (hl : l.length ≤ 256) (w : World) (hr : RdG w ao l) :
    Calls Try.prog 24 #[.slice ao l.length cap, .string (bs s)] w fun e w' => e = .returned (.bool (mt l s)) ∧ Below w.heap.size w w' := by
  obtain ⟨W1, hm1, hB1, hb1⟩ := make_bools (s.length + 1) (by omega) w
  rw [show ((s.length + 1 : Nat) : Int) = (s.length : Int) + 1 by omega] at hm1
  have c0 := hB1.cell (i := 0) (by omega)
  obtain ⟨c0, f0⟩ := c0
  have hR0 := (hB1.set (k := 0) true).congr (g := rc (l.take 0) s) (fun i hi => by
    rw [List.take_zero, rc_nil s i (by omega)]
    by_cases h : i = 0
    · subst h; rfl
    · rw [if_neg h, decide_eq_false h])
  have H0 := Lib.hid (show MtRel l s w l.length (.slice (some ⟨w.heap.size, 0, none⟩) (s.length + 1) (s.length + 1)) (.int .i64 (0 : Nat)) (W1.setCell ⟨w.heap.size, 0, none⟩ (.bool true)) from ⟨0, w.heap.size, by omega, rfl, rfl, Nat.le_refl _, hR0, hb1.setCell (p := ⟨w.heap.size, 0, none⟩) (Nat.le_refl _) _⟩)
  have HR := Lib.hid hr
  clear hB1 hb1 hR0 hr
  have hp1 : (0 : Int) < (s.length : Int) + 1 := by omega
  go_enter Try.func24, Try.ntmps24
  go_wp2
  go_loopg [5, 6] l.length (fun g v5 v6 wx => MtRel l s w g v5 v6 wx)
  case atStart => exact H0.out
  case round =>
    obtain ⟨k, rb, hkg, rfl, rfl, hrb, hB, hb⟩ := hrel
    clear H0 hm1 c0 f0
    by_cases hk : k < l.length
    · obtain ⟨G, rfl⟩ : ∃ G, gk = G + 1 := ⟨gk - 1, by omega⟩
      rename World => W0
      obtain ⟨W2, hm2, hN, hb2⟩ := make_bools (s.length + 1) (by omega) W0
      rw [show ((s.length + 1 : Nat) : Int) = (s.length : Int) + 1 by omega] at hm2
      have hk2 : ((k : Nat) : Int) < ((l.length : Nat) : Int) := by omega
      have H1 := Lib.hid (show MiRel (l.take k) (l.take (k + 1)) s W0 rb (s.length + 1) (.int .i64 (0 : Nat)) W2 from ⟨0, by omega, rfl, hN.congr (fun i _ => by simp), hB.below hb2, hb2⟩)
      have HB := Lib.hid hB; have HBB := Lib.hid hb
      have hrl := hB.lt
      clear hN hb2 hB hb
      go_wp2_with fail
      go_loopg [8] (s.length + 1) (fun g v8 wy => MiRel (l.take k) (l.take (k + 1)) s W0 rb g v8 wy)
      case atStart => exact H1.out
      case round =>
        obtain ⟨i, hig, rfl, hN, hB, hb⟩ := hrel
        clear H1 hm2
        by_cases hi : i < s.length + 1
        · obtain ⟨G2, rfl⟩ : ∃ G2, gk = G2 + 1 := ⟨gk - 1, by omega⟩
          obtain ⟨g, rfl, hg, a0, -, a2⟩ := (HR.out.below (HBB.out.trans (hb.mono HBB.out.size))).at hk
          have hi2 : ((i : Nat) : Int) ≤ ((s.length : Nat) : Int) := by omega
          have hil : i < s.length + 1 := hi
          have hkl : k < l.length := hk
          obtain ⟨cr, fr⟩ := hB.cell (i := i) hi
          obtain ⟨cn, fn⟩ := hN.cell (i := i) hi
          have HNN := Lib.hid hN; have HBW := Lib.hid hB; have HBX := Lib.hid hb
          have HCN := Lib.hid (show ∀ j, j < i → wr.cell? ⟨W0.heap.size, j, none⟩ = some (.bool (rc (l.take (k + 1)) s j)) from fun j hj => by
            have := (hN.cell (i := j) (by omega)).1
            rw [decide_eq_true hj, Bool.true_and] at this
            exact this)
          have HCR := Lib.hid (show ∀ j, j < i → wr.cell? ⟨rb, j, none⟩ = some (.bool (rc (l.take k) s j)) from fun j hj => (hB.cell (i := j) (by omega)).1)
          have hrne : rb ≠ W0.heap.size := by omega
          have HFIN := Lib.hid (show ∀ b, rc (l.take (k + 1)) s i = b → MiRel (l.take k) (l.take (k + 1)) s W0 rb G2 (.int .i64 ((i : Nat) + 1)) (wr.setCell ⟨W0.heap.size, i, none⟩ (.bool b)) from fun b e => ⟨i + 1, by omega, rfl, mi_step hN e, hB.else hrne _ _, hb.setCell (p := ⟨W0.heap.size, i, none⟩) (Nat.le_refl _) _⟩)
          have HFD := Lib.hid (show ∀ b, rc (l.take (k + 1)) s i = b → MiRel (l.take k) (l.take (k + 1)) s W0 rb G2 (.int .i64 ((i : Nat) + 1)) (wr.drew.setCell ⟨W0.heap.size, i, none⟩ (.bool b)) from fun b e => ⟨i + 1, by omega, rfl, mi_step hN.drew e, hB.drew.else hrne _ _, (show Below W0.heap.size W0 wr.drew from ⟨hb.os, hb.tape, hb.output, hb.size, hb.block⟩).setCell (p := ⟨W0.heap.size, i, none⟩) (Nat.le_refl _) _⟩)
          clear hN hB hb
          cases hany : (l.getD k .any).isAny
          · have hrec := rc_hit (l.take k) (l.getD k .any) hany s i (by omega)
            rw [← take_next l hk] at hrec
            rw [hany] at a0
            have cnd : wr.drew.cell? ⟨W0.heap.size, i, none⟩ = _ := cn
            have fnd : wr.drew.frozen? ⟨W0.heap.size, i, none⟩ = false := fn
            obtain ⟨y, hy⟩ : ∃ y, rc (l.take k) s (i - 1) = y := ⟨_, rfl⟩
            obtain ⟨z, hz⟩ : ∃ z, hitN (l.getD k .any) (byt s (i - 1)) = z := ⟨_, rfl⟩
            obtain ⟨e0, he⟩ : ∃ e0, decide ((0 : Int) < ((i : Nat) : Int)) = e0 := ⟨_, rfl⟩
            have he2 : decide (0 < i) = e0 := by rw [← he, decide_eq_decide]; omega
            rw [hy, hz, he2] at hrec
            have HV := Lib.hid (HFD.out _ hrec)
            have HO := Lib.hid (mt_obl W0.heap.size rb g i k l.length cap s e0 y z wr.drew)
            have HON := Lib.hid (mt_on W0.heap.size rb g i k l.length cap s e0 y z)
            have HCY := Lib.hid (show 0 < i → wr.drew.cell? ⟨rb, i - 1, none⟩ = some (.bool y) from fun h => by rw [← hy]; exact HCR.out (i - 1) (by omega))
            have HCZ := Lib.hid (show 0 < i → wr.drew.cell? ⟨g, k * 258 + 2 + byt s (i - 1), none⟩ = some (.bool z) from fun h => by rw [← hz]; exact a2 (byt s (i - 1)) (byt_lt s (i - 1)))
            have HE := Lib.hid he
            clear hrec hany a2 cr fr hy hz he2 he cn fn
            go_wp2_with fail
            refine wp_region_fut (oL := { dst := none, op := .store 4 (.tmp 77) (.tmp 76), type := _, pos := _, after := _, guard := none }) (fun x => x = wr.drew) MTL _ _ MTK (by kernel_rfl) ?_ (by kernel_rfl) (by decide) mtk_lt rfl HON.out (HO.out _ _ rfl rfl rfl rfl rfl rfl HE.out hil hkl hs HCY.out HCZ.out) rfl rfl (by kernel_rfl) ?_
            · exact ⟨⟨_, rfl, rfl, rfl, rfl, by kernel_rfl⟩, ⟨⟨_, rfl, rfl, rfl, rfl, by kernel_rfl⟩, ⟨⟨_, rfl, rfl, rfl, rfl, by kernel_rfl⟩, ⟨⟨_, rfl, rfl, rfl, rfl, by kernel_rfl⟩, ⟨⟨_, rfl, rfl, rfl, rfl, by kernel_rfl⟩, ⟨⟨_, rfl, rfl, rfl, rfl, by kernel_rfl⟩, ⟨⟨_, rfl, rfl, rfl, rfl, by kernel_rfl⟩, ⟨⟨_, rfl, rfl, rfl, rfl, by kernel_rfl⟩, ⟨⟨_, rfl, rfl, rfl, rfl, by kernel_rfl⟩, ⟨⟨_, rfl, rfl, rfl, rfl, by kernel_rfl⟩, ⟨⟨_, rfl, rfl, rfl, rfl, by kernel_rfl⟩, ⟨⟨_, rfl, rfl, rfl, rfl, by kernel_rfl⟩, ⟨⟨_, rfl, rfl, rfl, rfl, by kernel_rfl⟩, ⟨⟨_, rfl, rfl, rfl, rfl, by kernel_rfl⟩, ⟨⟨_, rfl, rfl, rfl, rfl, by kernel_rfl⟩, ⟨⟨_, rfl, rfl, rfl, rfl, by kernel_rfl⟩, ⟨⟨_, rfl, rfl, rfl, rfl, by kernel_rfl⟩, ⟨⟨_, rfl, rfl, rfl, rfl, by kernel_rfl⟩, ⟨⟨_, rfl, rfl, rfl, rfl, by kernel_rfl⟩, ⟨⟨_, rfl, rfl, rfl, rfl, by kernel_rfl⟩, ⟨⟨_, rfl, rfl, rfl, rfl, by kernel_rfl⟩, ⟨⟨_, rfl, rfl, rfl, rfl, by kernel_rfl⟩, ⟨⟨_, rfl, rfl, rfl, rfl, by kernel_rfl⟩, ⟨⟨_, rfl, rfl, rfl, rfl, by kernel_rfl⟩, rfl⟩⟩⟩⟩⟩⟩⟩⟩⟩⟩⟩⟩⟩⟩⟩⟩⟩⟩⟩⟩⟩⟩⟩⟩
            · rintro a w' rfl hF hV
              have v76 : slot a 76 = .bool ((e0 && y) && z) := hV 22 (by decide) rfl
              have v77 : slot a 77 = .pointer (some ⟨W0.heap.size, i, none⟩) := hV 23 (by decide) rfl
              refine op_unit (Instr.storeAt 4 (.pointer (some ⟨W0.heap.size, i, none⟩)) (.bool ((e0 && y) && z))) (by simp only [execOp]; rw [eval_slot, eval_slot, v76, v77]) (w' := wr.drew.setCell ⟨W0.heap.size, i, none⟩ (.bool ((e0 && y) && z))) (u := ()) (by go_simp) ?_
              rw [hF.eq]
              simp only [puts, MTK, List.foldl, Act.put, List.setIfInBounds_toArray, List.set_cons_succ, List.set_cons_zero]
              generalize wr.drew = W9 at *
              go_wp2
              go_roundg G2
              case measure => omega
              case rel => exact HV.out
          · have hrec := rc_any (l.take k) s i (by omega)
            rw [show l.take k ++ [.any] = l.take (k + 1) by rw [take_next l hk, any_of hany]] at hrec
            rw [hany] at a0
            clear a2
            cases hx : rc (l.take k) s i
            · rw [hx] at cr hrec
              rcases Nat.eq_zero_or_pos i with h0 | h0
              · have HV := Lib.hid (HFIN.out false (by rw [hrec, h0]; rfl))
                have h1 : ¬ (0 : Int) < ((i : Nat) : Int) := by omega
                have h2 : ((i : Nat) : Int) ≤ 0 := by omega
                clear hx hrec h0 hany
                go_wp2
                go_roundg G2
                case measure => omega
                case rel => exact HV.out
              · have h1 : (0 : Int) < ((i : Nat) : Int) := by omega
                have htn : (((i : Nat) : Int) - 1).toNat = i - 1 := by omega
                have hge : (0 : Int) ≤ ((i : Nat) : Int) - 1 := by omega
                have hlt : ((i : Nat) : Int) - 1 < ((s.length : Nat) : Int) + 1 := by omega
                have cm := HCN.out (i - 1) (by omega)
                rw [decide_eq_true h0, Bool.true_and, Bool.false_or] at hrec
                have HV := Lib.hid (HFIN.out _ hrec)
                generalize rc (l.take (k + 1)) s (i - 1) = y at *
                clear hx hrec hany h0
                cases y
                all_goals
                  go_wp2
                  go_roundg G2
                  case measure => omega
                  case rel => exact HV.out
            · rw [hx] at cr hrec
              have HV := Lib.hid (HFIN.out true (by rw [hrec]; rfl))
              clear hx hrec hany
              go_wp2
              go_roundg G2
              case measure => omega
              case rel => exact HV.out
        · have hie : i = s.length + 1 := by omega
          have hi2 : ¬ ((i : Nat) : Int) ≤ ((s.length : Nat) : Int) := by omega
          have HX := Lib.hid (show MtRel l s w G (.slice (some ⟨W0.heap.size, 0, none⟩) (s.length + 1) (s.length + 1)) (.int .i64 ((k : Nat) + 1)) wr from
            ⟨k + 1, W0.heap.size, by omega, rfl, rfl, HBB.out.size, hN.congr (fun j hj => by rw [hie, decide_eq_true hj, Bool.true_and]), HBB.out.trans (hb.mono HBB.out.size)⟩)
          clear hN hB hb hie
          go_wp2
          go_roundg G
          case measure => omega
          case rel => exact HX.out
    · have hk2 : ¬ ((k : Nat) : Int) < ((l.length : Nat) : Int) := by omega
      have hke : l.take k = l := List.take_of_length_le (by omega)
      rw [hke] at hB
      obtain ⟨cr, -⟩ := hB.cell (i := s.length) (by omega)
      rw [rc_whole] at cr
      have HB := Lib.hid hb
      have hin : ((s.length : Nat) : Int) < (s.length : Int) + 1 := by omega
      obtain ⟨r, hre⟩ : ∃ r, G13.mt l s = r := ⟨_, rfl⟩
      rw [hre] at cr
      have HRE := Lib.hid hre
      clear hB hb hke hre
      go_wp2
      go_ret
      rw [HRE.out]
      exact ⟨rfl, HB.out⟩
end Go.Proofs.Ytmhmipbbbccfgaa
