/- The program's Print of structured data, walked. -/
import Derived.Test.YtkpcfbadhoiigaaDoorQuqG
namespace Go.Proofs.YtkpcfbadhoiigaaDoor
open Go.ChangeShapes Go.WideShapes Go.ChangeAt Go.RowKit K Q10 U4
set_option linter.unusedVariables false

theorem elsT_stepk (l : List El) (i : Nat) (h : i < l.length) : elsT (l.take (i + 1)) = elsT (l.take i) ++ elT (l.getD i noe) := by
  rw [takeD l i noe h, elsT_app]; simp [elsT]
theorem elsT_le (l : List El) (i : Nat) : (elsT (l.take i)).length ≤ (elsT l).length := by
  have : elsT l = elsT (l.take i) ++ elsT (l.drop i) := by rw [← elsT_app, List.take_append_drop]
  rw [this, List.length_append]; omega
def PkRel (l : List El) (w w1 : World) (g : Nat) (v : Value) (wr : World) : Prop :=
  ∃ i, i + g = l.length ∧ v = .int .i64 (i : Nat) ∧ (elsT (l.take i)).length ≤ 65536 ∧ Bld w1.heap.size w1.heap.size (elsT (l.take i)) wr ∧ Below w1.heap.size w1 wr
set_option maxRecDepth 100000 in
set_option maxHeartbeats 2000000 in
theorem kprint_walk (l : List El) (ao : Option Addr) (cap : Nat) (hB : Bnds l) (hp : okL l = true → (elsT l).length ≤ 10000000) (w : World) (ht : Leads w) (hr : RdE w ao l) :
    Calls Tryd.prog 18 #[.slice ao l.length cap] w fun e w' => e = .returned (.tuple #[.string (bs (prS l)), .int .i64 (prE l : Nat)]) ∧ Below w.heap.size w w' := by
  have HCK := Lib.hid (kcheck_walk l ao cap hB w ht hr)
  cases ho : okL l
  · have HE := Lib.hid (show prS l = [] ∧ prE l = 100 by unfold prS prE; rw [ho]; exact ⟨rfl, rfl⟩)
    rw [ckE_no ho] at HCK
    clear ho hp hB hr ht
    go_enter Tryd.func18, Tryd.ntmps18
    go_wp2_with fail
    refine HCK.out.mono ?_
    rintro e w1 ⟨rfl, b1⟩
    go_wp2
    go_ret2
    rw [HE.out.1, HE.out.2]
    exact ⟨rfl, b1⟩
  rw [ckE_yes ho] at HCK
  have hpl := hp ho
  have h4 : l.length ≤ 4096 := put_okL ho
  have HE := Lib.hid (show prS l = (if (put l).length ≤ 65536 then put l else []) ∧ prE l = (if (put l).length ≤ 65536 then 0 else 2) by unfold prS prE; rw [ho]; exact ⟨rfl, rfl⟩)
  obtain ⟨hn40, hx⟩ := hB
  have HX := Lib.hid hx
  have HR := Lib.hid (fun w1 (b : Below w.heap.size w w1) => hr.below b)
  clear ho hp hr ht hx hn40
  by_cases h0 : l.length = 0
  · have hl : l = [] := List.length_eq_zero_iff.1 h0
    subst hl
    go_enter Tryd.func18, Tryd.ntmps18
    go_wp2_with fail
    refine HCK.out.mono ?_
    rintro e w1 ⟨rfl, b1⟩
    go_wp2
    go_ret2
    rw [HE.out.1, HE.out.2]
    exact ⟨rfl, b1⟩
  have h01 : (((l.length : Nat) : Int) == 0) = false := by rw [beq_eq_false_iff_ne]; omega
  have hput : put l = elsT l := by unfold put; cases l with | nil => simp at h0 | cons a b => rfl
  rw [hput] at HE
  clear h0 hput
  go_enter Tryd.func18, Tryd.ntmps18
  go_wp2_with fail
  refine HCK.out.mono ?_
  rintro e w1 ⟨rfl, b1⟩
  have hbf := Bld.new0 w1
  have hba : Below w1.heap.size w1 (w1.alloc (.cells #[.pointer none, .slice none 0 0] 59)) := (Below.refl _ _).alloc (Nat.le_refl _) _
  go_wp2_with fail
  go_loopg [18] l.length (fun g v wr => PkRel l w w1 g v wr)
  case atStart => exact ⟨0, by omega, rfl, by simp [elsT], by simpa [elsT] using hbf, hba⟩
  case round =>
    obtain ⟨i, hg, rfl, hle, hB, hb⟩ := hrel
    have HB := Lib.hid hb
    have HD := Lib.hid hB
    clear hbf hba hB hb
    cases gk with
    | zero =>
      have hp : l.length ≤ i := by omega
      have HD2 := HD.out
      rw [List.take_of_length_le hp] at HD2 hle
      have HS := Lib.hid (bstr _ _ _ _ HD2 HB.out.size)
      have HF := Lib.hid (show prS l = elsT l ∧ prE l = 0 by rw [HE.out.1, HE.out.2, if_pos hle, if_pos hle]; exact ⟨rfl, rfl⟩)
      clear hg hle HD2
      go_wp2_with fail
      refine HS.out.mono ?_
      rintro e w3 ⟨rfl, d3⟩
      have b3 := b1.trans ((HB.out.trans d3).mono b1.size)
      go_wp2
      go_ret2
      rw [HF.out.1, HF.out.2]
      exact ⟨rfl, b3⟩
    | succ g =>
      have hlt : i < l.length := by omega
      have hst := elsT_stepk l i hlt
      have hle2 := elsT_le l (i + 1)
      obtain ⟨x, hxe⟩ : ∃ x, l.getD i noe = x := ⟨_, rfl⟩
      have hbw := b1.trans (HB.out.mono b1.size)
      obtain ⟨c, off, po, pc, rfl, hc, c0, c1, hrp⟩ := (HR.out _ hbw).at hlt hxe
      have hbx := HX.out x (hxe ▸ getD_mem (d := noe) hlt)
      rw [hxe] at hst
      have a1 := alloc_in' wr (.cells #[.string (bs x.id), .slice po x.ps.length pc] 45)
      have hb1 := HB.out.alloc (o := .cells #[.string (bs x.id), .slice po x.ps.length pc] 45) HB.out.size
      have hB1 := bld_below HD.out a1
      have hrp1 : ∀ wx, Below w1.heap.size w1 wx → RdP wx po x.ps := by
        intro wx hb
        obtain ⟨c', off', po', pc', e', _, c0', c1', hrp'⟩ := (HR.out _ (b1.trans (hb.mono b1.size))).at hlt hxe
        injection e' with e'
        injection e' with e1 e2
        subst e1 e2
        obtain ⟨c'', off'', po'', pc'', e'', hc'', c0'', c1'', hrp''⟩ := (HR.out _ b1).at hlt hxe
        injection e'' with e''
        injection e'' with e1 e2
        subst e1 e2
        have k1 : wx.cell? ⟨c, off + i * 2 + 1, none⟩ = some (.slice po'' x.ps.length pc'') := (hb.cell (p := ⟨c, off + i * 2 + 1, none⟩) hc'').trans c1''
        have k2 : wr.cell? ⟨c, off + i * 2 + 1, none⟩ = some (.slice po'' x.ps.length pc'') := (HB.out.cell (p := ⟨c, off + i * 2 + 1, none⟩) hc'').trans c1''
        rw [c1'] at k1
        rw [c1] at k2
        injection k1 with k1
        injection k2 with k2
        injection k1 with k1 _ _
        injection k2 with k2 _ _
        rw [k2, ← k1]
        exact hrp'
      have hnl : (elsT (l.take i) ++ elT x).length ≤ 1000000000 := by rw [← hst]; omega
      have HWR := Lib.hid (qwrite_walk w1.heap.size w1.heap.size (elsT (l.take i)) x po pc hnl _ hB1 (by have := HB.out.size; have := lt_of_bld HD.out; simp; omega) hb1.size (fun wx hb => hrp1 wx (hb1.trans hb)) (by omega))
      unfold WrPost at HWR
      rw [← hst] at HWR
      have HB1 := Lib.hid hb1
      clear hst a1 hb1 hB1 hrp hrp1 hnl hxe hbx
      by_cases hbig : (elsT (l.take (i + 1))).length ≤ 65536
      · rw [decide_eq_true hbig] at HWR
        go_wp2_with fail
        refine HWR.out.mono ?_
        rintro e w3 ⟨rfl, d3, hD3⟩
        have HD3 := Lib.hid (hD3 hbig)
        have HB3 := Lib.hid (HB1.out.trans d3)
        have HBG := Lib.hid hbig
        clear d3 hD3 hbig
        go_wp2
        go_roundg g
        case measure => omega
        case rel => exact ⟨i + 1, by omega, by simp, HBG.out, HD3.out, HB3.out⟩
      · rw [decide_eq_false hbig] at HWR
        have hnb : ¬ (elsT l).length ≤ 65536 := by omega
        have HF := Lib.hid (show prS l = [] ∧ prE l = 2 by rw [HE.out.1, HE.out.2, if_neg hnb, if_neg hnb]; exact ⟨rfl, rfl⟩)
        clear hbig hnb
        go_wp2_with fail
        refine HWR.out.mono ?_
        rintro e w3 ⟨rfl, d3, -⟩
        have b3 := b1.trans ((HB1.out.trans d3).mono b1.size)
        clear d3
        go_wp2
        go_ret2
        rw [HF.out.1, HF.out.2]
        exact ⟨rfl, b3⟩
end Go.Proofs.YtkpcfbadhoiigaaDoor
