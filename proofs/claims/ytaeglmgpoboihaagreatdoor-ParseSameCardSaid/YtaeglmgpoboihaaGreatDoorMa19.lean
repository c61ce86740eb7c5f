/- Texts on the program and on the document, joined: Psm. -/
import Derived.Test.YtaeglmgpoboihaaGreatDoorMa18
import Derived.Deep.LoopGhost
import Derived.RegionTactic
/- small: is a book short? -/
namespace Go.Proofs.YtaeglmgpoboihaaGreatDoor
open Go.ChangeShapes Go.WideShapes Go.ChangeAt Go.RowKit K L15
set_option linter.unusedVariables false
set_option linter.unusedSimpArgs false

/-- Sums as the law makes them: nothing says that they don't wrap. -/
def smK (n : Int) (k : Pr) : Int := IntKind.i64.wrap (n + IntKind.i64.wrap ((((k.n.length : Nat) : Int) + ((k.v.length : Nat) : Int)).tdiv 50))
def smKs : Int → List Pr → Int
  | n, [] => n
  | n, k :: r => smKs (smK n k) r
def smTs : Int → List Tb → Int
  | n, [] => n
  | n, t :: r => if n < 300 then smTs (smKs (IntKind.i64.wrap (n + (1 + ((t.ks.length : Nat) : Int)))) t.ks) r else n
def smSs : Int → List St → Int
  | n, [] => n
  | n, x :: r => smSs (IntKind.i64.wrap (n + ((x.ps.length : Nat) : Int))) r
def smRs : Int → List Ru → Int
  | n, [] => n
  | n, x :: r => if n < 300 then smRs (smSs (IntKind.i64.wrap (n + (1 + ((x.ts.length : Nat) : Int) + ((x.ss.length : Nat) : Int)))) x.ss) r else n
theorem smTs_stop {n : Int} (h : ¬ n < 300) : ∀ l, smTs n l = n
  | [] => rfl
  | t :: r => by rw [smTs, if_neg h]
theorem smRs_stop {n : Int} (h : ¬ n < 300) : ∀ l, smRs n l = n
  | [] => rfl
  | t :: r => by rw [smRs, if_neg h]
def smB (b : Bk) : Bool := decide (smRs (smTs 0 b.tb) b.ru < 300) && decide (b.tb.length < 300) && decide (b.ru.length < 300) && decide (b.wt.length < 100)
/-- A book that a memory can hold. -/
def BkM (b : Bk) : Prop := (b.tb.length ≤ 140737488351232 ∧ b.ru.length ≤ 140737488351232 ∧ b.wt.length ≤ 140737488351232) ∧ (∀ t ∈ b.tb, t.ks.length ≤ 140737488351232 ∧ ∀ k ∈ t.ks, k.n.length ≤ 140737488351232 ∧ k.v.length ≤ 140737488351232) ∧
  ∀ x ∈ b.ru, x.ts.length ≤ 140737488351232 ∧ x.ss.length ≤ 140737488351232 ∧ ∀ s ∈ x.ss, s.ps.length ≤ 140737488351232
theorem r0_at {w : World} {c : Nat} {ao : Option Addr} {rows : List (List Value)} (h : RdR0 w c ao rows) {i : Nat} (hi : i < rows.length) : ∃ g o, ao = some ⟨g, o, none⟩ ∧ ∀ j, j < c → w.cell? ⟨g, o + i * c + j, none⟩ = (rows.getD i [])[j]? := by
  rcases h with h | ⟨g, o, ha, -, hc⟩
  · omega
  · exact ⟨g, o, ha, fun j hj => hc i hi j hj⟩
theorem cell_below {W x : World} (h : Below W.heap.size W x) {a : Addr} {v : Value} (c : W.cell? a = some v) : x.cell? a = some v := (h.cell (World.block_lt_of_cell? W a c)).trans c
def SmRel (W : World) (b : Bk) (g : Nat) (v4 v3 : Value) (wr : World) : Prop := ∃ (i : Nat) (n : Int), i + g = b.tb.length ∧ v4 = .int .i64 (i : Nat) ∧ v3 = .int .i64 n ∧ smTs 0 b.tb = smTs n (b.tb.drop i) ∧ Below W.heap.size W wr
def SmRelK (W : World) (ks : List Pr) (n0 : Int) (g : Nat) (v5 v3 : Value) (wr : World) : Prop := ∃ (k : Nat) (n : Int), k + g = ks.length ∧ v5 = .int .i64 (k : Nat) ∧ v3 = .int .i64 n ∧ smKs n0 ks = smKs n (ks.drop k) ∧ Below W.heap.size W wr
def SmRelR (W : World) (b : Bk) (g : Nat) (v6 v3 : Value) (wr : World) : Prop := ∃ (i : Nat) (n : Int), i + g = b.ru.length ∧ v6 = .int .i64 (i : Nat) ∧ v3 = .int .i64 n ∧ smRs (smTs 0 b.tb) b.ru = smRs n (b.ru.drop i) ∧ Below W.heap.size W wr
def SmRelS (W : World) (ss : List St) (n0 : Int) (g : Nat) (v7 v3 : Value) (wr : World) : Prop := ∃ (k : Nat) (n : Int), k + g = ss.length ∧ v7 = .int .i64 (k : Nat) ∧ v3 = .int .i64 n ∧ smSs n0 ss = smSs n (ss.drop k) ∧ Below W.heap.size W wr
set_option maxRecDepth 100000 in
set_option maxHeartbeats 1000000 in
theorem small15_walk (b : Bk) (hM : BkM b) (v : Value) (w : World) (hr : BkR w v b) :
    Calls Tryz.prog 9 #[v] w fun e w' => e = .returned (.bool (smB b)) ∧ Below w.heap.size w w' := by
  obtain ⟨ta, tc, ra, rc, wa, wc, rt, rr, rfl, h1, h2, h3, h4, h5⟩ := hr
  obtain ⟨⟨m1, m2, m3⟩, hmt, hmr⟩ := hM
  have HMT := Lib.hid hmt
  have HMR := Lib.hid hmr
  have bA := alloc_below w (.cells #[.slice ta b.tb.length tc, .slice ra b.ru.length rc, .slice wa b.wt.length wc] 27)
  obtain ⟨W, hW⟩ : ∃ W, w.alloc (.cells #[.slice ta b.tb.length tc, .slice ra b.ru.length rc, .slice wa b.wt.length wc] 27) = W := ⟨_, rfl⟩
  have r0 := rowNew w (.cells #[.slice ta b.tb.length tc, .slice ra b.ru.length rc, .slice wa b.wt.length wc] 27)
  rw [hW] at bA r0
  have HBA := Lib.hid bA
  have HR := Lib.hid r0
  have HY0 := Lib.hid (show W.cell? ⟨w.heap.size, 0, none⟩ = some (.slice ta b.tb.length tc) from cellRow r0 0)
  have HY1 := Lib.hid (show W.cell? ⟨w.heap.size, 1, none⟩ = some (.slice ra b.ru.length rc) from cellRow r0 1)
  have HY2 := Lib.hid (show W.cell? ⟨w.heap.size, 2, none⟩ = some (.slice wa b.wt.length wc) from cellRow r0 2)
  have HT := Lib.hid (h1.below bA)
  have HTR := Lib.hid (show RlR (TbR0 W) rt b.tb from RlR.imp (fun r s ⟨po, pc, e, h⟩ => ⟨po, pc, e, h.below bA⟩) h2)
  have HU := Lib.hid (h3.below bA)
  have HUR := Lib.hid (show RlR (RuR0 W) rr b.ru from RlR.imp (fun r s ⟨po, pc, qo, qc, rs, e, h1, h2, h3⟩ => ⟨po, pc, qo, qc, rs, e, h1.below bA, h2.below bA, RlR.imp (fun r s ⟨po, pc, e, h⟩ => ⟨po, pc, e, h.below bA⟩) h3⟩) h4)
  have HLT := Lib.hid (RlR.len h2)
  have HLR := Lib.hid (RlR.len h4)
  have HM1 := Lib.hid m1
  have HM2 := Lib.hid m2
  have HM3 := Lib.hid m3
  clear hmt hmr h1 h2 h3 h4 h5 bA r0 m1 m2 m3
  have H0 := Lib.hid (show SmRel W b b.tb.length (.int .i64 0) (.int .i64 0) W from ⟨0, 0, by omega, rfl, rfl, by rw [List.drop_zero], Below.refl _ _⟩)
  go_enter Tryz.func9, Tryz.ntmps9
  go_wp2_with fail
  go_loopg [4, 3] b.tb.length (fun g v4 v3 wr => SmRel W b g v4 v3 wr)
  case atStart => exact H0.out
  case round =>
    obtain ⟨i, n, hig, rfl, rfl, hsum, hbw⟩ := hrel
    clear H0
    have y0 := cell_below hbw HY0.out
    have y1 := cell_below hbw HY1.out
    by_cases hi : i < b.tb.length
    · have hi2 : ((i : Nat) : Int) < ((b.tb.length : Nat) : Int) := by omega
      by_cases hn : n < 300
      · obtain ⟨G, rfl⟩ : ∃ G, gk = G + 1 := ⟨gk - 1, by omega⟩
        obtain ⟨q, o, rfl, c⟩ := r0_at HT.out (i := i) (by rw [HLT.out]; exact hi)
        obtain ⟨po, pc, e, hk⟩ := rl_at HTR.out hi
        simp only [e] at c
        have c2 := c 2 (by omega)
        simp only [List.getElem?_cons_zero, List.getElem?_cons_succ] at c2
        have HA2 := Lib.hid c2
        have a2 := cell_below hbw c2
        clear c2
        obtain ⟨hk1, hk2⟩ := HMT.out _ (List.getElem_mem hi)
        have hdr : b.tb.drop i = b.tb[i] :: b.tb.drop (i + 1) := List.drop_eq_getElem_cons hi
        rw [hdr, smTs, if_pos hn] at hsum
        generalize b.tb[i] = x at *
        have z1 : IntKind.i64.wrap (1 + ((x.ks.length : Nat) : Int)) = 1 + ((x.ks.length : Nat) : Int) := IntWalk.i64_in _ (by omega)
        have HS := Lib.hid hsum
        have HKR := Lib.hid hk
        have HK2 := Lib.hid hk2
        have HK1 := Lib.hid hk1
        have HIG := Lib.hid hig
        have HBW := Lib.hid hbw
        clear c e hk hk1 hk2 hdr hsum hig hbw
        obtain ⟨n0, hn0⟩ : ∃ n0, IntKind.i64.wrap (n + (1 + ((x.ks.length : Nat) : Int))) = n0 := ⟨_, rfl⟩
        rw [hn0] at HS
        have H1 := Lib.hid (show SmRelK W x.ks n0 x.ks.length (.int .i64 0) (.int .i64 n0) wr from ⟨0, n0, by omega, rfl, rfl, by rw [List.drop_zero], HBW.out⟩)
        go_wp2_with fail
        clear y0 y1 a2
        go_loopg [5, 3] x.ks.length (fun g v5 v3 wr => SmRelK W x.ks n0 g v5 v3 wr)
        case atStart => exact H1.out
        case round =>
          obtain ⟨k, m, hkg, rfl, rfl, hks, hb2⟩ := hrel
          clear H1
          have y0 := cell_below hb2 HY0.out
          have a2 := cell_below hb2 HA2.out
          by_cases hk : k < x.ks.length
          · have hk2 : ((k : Nat) : Int) < ((x.ks.length : Nat) : Int) := by omega
            obtain ⟨H, rfl⟩ : ∃ H, gk = H + 1 := ⟨gk - 1, by omega⟩
            obtain ⟨q2, o2, rfl, c⟩ := r0_at HKR.out (i := k) (by rw [List.length_map]; exact hk)
            rw [map_at hk] at c
            have c0 := c 0 (by omega)
            have c1 := c 1 (by omega)
            obtain ⟨l1, l2⟩ := HK2.out _ (List.getElem_mem hk)
            have hdk : x.ks.drop k = x.ks[k] :: x.ks.drop (k + 1) := List.drop_eq_getElem_cons hk
            rw [hdk, smKs] at hks
            generalize x.ks[k] = y at *
            simp only [prRow, List.getElem?_cons_zero, List.getElem?_cons_succ, Nat.add_zero] at c0 c1
            have b0 := cell_below hb2 c0
            have b1 := cell_below hb2 c1
            have z5 : IntKind.i64.wrap (((y.n.length : Nat) : Int) + ((y.v.length : Nat) : Int)) = ((y.n.length : Nat) : Int) + ((y.v.length : Nat) : Int) := IntWalk.i64_in _ (by omega)
            have zS := And.intro y0 (And.intro a2 (And.intro b0 b1))
            go_wp2_with fail
            go_region_held3 (fun z => z.cell? ⟨w.heap.size, 0, none⟩ = some (.slice (some ⟨q, o, none⟩) b.tb.length tc) ∧ z.cell? ⟨q, o + i * 4 + 2, none⟩ = some (.slice (some ⟨q2, o2, none⟩) x.ks.length pc) ∧ z.cell? ⟨q2, o2 + k * 2, none⟩ = some (.string (bs y.n)) ∧ z.cell? ⟨q2, o2 + k * 2 + 1, none⟩ = some (.string (bs y.v))) (first | exact zS) (fail)
            clear zS y0 a2 b0 b1 c0 c1 c
            have HNX := Lib.hid (show SmRelK W x.ks n0 H (.int .i64 (((k : Nat) : Int) + 1)) (.int .i64 (smK m y)) wr.drew from ⟨k + 1, smK m y, by omega, rfl, rfl, hks, below_dq hb2⟩)
            have z6 : IntKind.i64.wrap (((k : Nat) : Int) + 1) = ((k : Nat) : Int) + 1 := IntWalk.i64_in _ (by have := HK1.out; omega)
            clear hks hdk hkg hb2
            go_wp2
            go_roundg H
            case measure => omega
            case rel => exact HNX.out
          · have hk2 : ¬ ((k : Nat) : Int) < ((x.ks.length : Nat) : Int) := by omega
            have hke : x.ks.drop k = [] := List.drop_eq_nil_of_le (by omega)
            rw [hke] at hks
            have HS2 := Lib.hid (show smTs 0 b.tb = smTs m (b.tb.drop (i + 1)) by rw [HS.out, hks]; rfl)
            have HNX := Lib.hid (show SmRel W b G (.int .i64 (((i : Nat) : Int) + 1)) (.int .i64 m) wr from ⟨i + 1, m, by have := HIG.out; omega, rfl, rfl, HS2.out, hb2⟩)
            have z6 : IntKind.i64.wrap (((i : Nat) : Int) + 1) = ((i : Nat) : Int) + 1 := IntWalk.i64_in _ (by have := HM1.out; omega)
            clear hks hke hkg hb2
            go_wp2
            go_roundg G
            case measure => omega
            case rel => exact HNX.out
      · have hfin : smTs 0 b.tb = n := by rw [hsum, smTs_stop hn]
        have H2 := Lib.hid (show SmRelR W b b.ru.length (.int .i64 0) (.int .i64 n) wr from ⟨0, n, by omega, rfl, rfl, by rw [hfin, List.drop_zero], hbw⟩)
        clear hsum hig hbw hfin
        go_wp2_with fail
        clear y0 y1
        go_loopg [6, 3] b.ru.length (fun g v6 v3 wr => SmRelR W b g v6 v3 wr)
        case atStart => exact H2.out
        case round =>
          obtain ⟨i, n, hig, rfl, rfl, hsum, hbw⟩ := hrel
          clear H2
          have y0 := cell_below hbw HY0.out
          have y1 := cell_below hbw HY1.out
          have y2 := cell_below hbw HY2.out
          by_cases hi : i < b.ru.length
          · have hi2 : ((i : Nat) : Int) < ((b.ru.length : Nat) : Int) := by omega
            by_cases hn : n < 300
            · obtain ⟨G, rfl⟩ : ∃ G, gk = G + 1 := ⟨gk - 1, by omega⟩
              obtain ⟨q, o, rfl, c⟩ := r0_at HU.out (i := i) (by rw [HLR.out]; exact hi)
              obtain ⟨po, pc, qo, qc, rs, e, hk1, hk2, hk3⟩ := rl_at HUR.out hi
              simp only [e] at c
              have c5 := c 5 (by omega)
              have c6 := c 6 (by omega)
              simp only [List.getElem?_cons_zero, List.getElem?_cons_succ] at c5 c6
              have HA6 := Lib.hid c6
              have a5 := cell_below hbw c5
              have a6 := cell_below hbw c6
              clear c5 c6
              obtain ⟨l1, l2, l3⟩ := HMR.out _ (List.getElem_mem hi)
              have hdr : b.ru.drop i = b.ru[i] :: b.ru.drop (i + 1) := List.drop_eq_getElem_cons hi
              rw [hdr, smRs, if_pos hn] at hsum
              generalize b.ru[i] = x at *
              have z1 : IntKind.i64.wrap (1 + ((x.ts.length : Nat) : Int)) = 1 + ((x.ts.length : Nat) : Int) := IntWalk.i64_in _ (by omega)
              have z2 : IntKind.i64.wrap (1 + ((x.ts.length : Nat) : Int) + ((x.ss.length : Nat) : Int)) = 1 + ((x.ts.length : Nat) : Int) + ((x.ss.length : Nat) : Int) := IntWalk.i64_in _ (by omega)
              have HS := Lib.hid hsum
              have HKR := Lib.hid hk2
              have HKS := Lib.hid hk3
              have HKL := Lib.hid (RlR.len hk3)
              have HK1 := Lib.hid l2
              have HK2 := Lib.hid l3
              have HIG := Lib.hid hig
              have HBW := Lib.hid (below_dq hbw)
              have zS := And.intro y1 (And.intro a5 a6)
              obtain ⟨n0, hn0⟩ : ∃ n0, IntKind.i64.wrap (n + (1 + ((x.ts.length : Nat) : Int) + ((x.ss.length : Nat) : Int))) = n0 := ⟨_, rfl⟩
              rw [hn0] at HS
              have H1 := Lib.hid (show SmRelS W x.ss n0 x.ss.length (.int .i64 0) (.int .i64 n0) wr.drew from ⟨0, n0, by omega, rfl, rfl, by rw [List.drop_zero], HBW.out⟩)
              clear c e hk1 hk2 hk3 l1 l2 l3 hdr hsum hig hbw
              go_wp2_with fail
              go_region_held3 (fun z => z.cell? ⟨w.heap.size, 1, none⟩ = some (.slice (some ⟨q, o, none⟩) b.ru.length rc) ∧ z.cell? ⟨q, o + i * 8 + 5, none⟩ = some (.slice po x.ts.length pc) ∧ z.cell? ⟨q, o + i * 8 + 6, none⟩ = some (.slice qo x.ss.length qc)) (first | exact zS) (fail)
              clear zS y0 y1 y2 a5 a6
              go_wp2_with fail
              go_loopg [7, 3] x.ss.length (fun g v7 v3 wr => SmRelS W x.ss n0 g v7 v3 wr)
              case atStart => exact H1.out
              case round =>
                obtain ⟨k, m, hkg, rfl, rfl, hks, hb2⟩ := hrel
                clear H1
                have y1 := cell_below hb2 HY1.out
                have a6 := cell_below hb2 HA6.out
                by_cases hk : k < x.ss.length
                · have hk2 : ((k : Nat) : Int) < ((x.ss.length : Nat) : Int) := by omega
                  obtain ⟨H, rfl⟩ : ∃ H, gk = H + 1 := ⟨gk - 1, by omega⟩
                  obtain ⟨q2, o2, rfl, c⟩ := r0_at HKR.out (i := k) (by rw [HKL.out]; exact hk)
                  obtain ⟨p2, d2, e2, -⟩ := rl_at HKS.out hk
                  simp only [e2] at c
                  have c1 := c 1 (by omega)
                  have l1 := HK2.out _ (List.getElem_mem hk)
                  have hdk : x.ss.drop k = x.ss[k] :: x.ss.drop (k + 1) := List.drop_eq_getElem_cons hk
                  rw [hdk, smSs] at hks
                  generalize x.ss[k] = y at *
                  simp only [List.getElem?_cons_zero, List.getElem?_cons_succ, Nat.add_zero] at c1
                  have b1 := cell_below hb2 c1
                  obtain ⟨m2, hm2⟩ : ∃ m2, IntKind.i64.wrap (m + ((y.ps.length : Nat) : Int)) = m2 := ⟨_, rfl⟩
                  rw [hm2] at hks
                  have HNX := Lib.hid (show SmRelS W x.ss n0 H (.int .i64 (((k : Nat) : Int) + 1)) (.int .i64 m2) wr from ⟨k + 1, _, by omega, rfl, rfl, hks, hb2⟩)
                  have z6 : IntKind.i64.wrap (((k : Nat) : Int) + 1) = ((k : Nat) : Int) + 1 := IntWalk.i64_in _ (by have := HK1.out; omega)
                  clear hks hdk hkg hb2 c c1 e2
                  go_wp2
                  go_roundg H
                  case measure => omega
                  case rel => exact HNX.out
                · have hk2 : ¬ ((k : Nat) : Int) < ((x.ss.length : Nat) : Int) := by omega
                  have hke : x.ss.drop k = [] := List.drop_eq_nil_of_le (by omega)
                  rw [hke] at hks
                  have HS2 := Lib.hid (show smRs (smTs 0 b.tb) b.ru = smRs m (b.ru.drop (i + 1)) by rw [HS.out, hks]; rfl)
                  have HNX := Lib.hid (show SmRelR W b G (.int .i64 (((i : Nat) : Int) + 1)) (.int .i64 m) wr from ⟨i + 1, m, by have := HIG.out; omega, rfl, rfl, HS2.out, hb2⟩)
                  have z6 : IntKind.i64.wrap (((i : Nat) : Int) + 1) = ((i : Nat) : Int) + 1 := IntWalk.i64_in _ (by have := HM2.out; omega)
                  clear hks hke hkg hb2
                  go_wp2
                  go_roundg G
                  case measure => omega
                  case rel => exact HNX.out
            · have hfin : smRs (smTs 0 b.tb) b.ru = n := by rw [hsum, smRs_stop hn]
              have HSB := Lib.hid (show smB b = (decide (n < 300) && decide (b.tb.length < 300) && decide (b.ru.length < 300) && decide (b.wt.length < 100)) by unfold smB; rw [hfin])
              have HBW := Lib.hid (HBA.out.trans (hbw.mono HBA.out.size))
              clear hsum hig hbw hfin
              go_wp2
              go_ret
              exact ⟨by rw [HSB.out, decide_eq_false (show ¬ n < 300 by omega)]; rfl, HBW.out⟩
          · have hi2 : ¬ ((i : Nat) : Int) < ((b.ru.length : Nat) : Int) := by omega
            have hfin : smRs (smTs 0 b.tb) b.ru = n := by rw [hsum, List.drop_eq_nil_of_le (by omega)]; rfl
            have HSB := Lib.hid (show smB b = (decide (n < 300) && decide (b.tb.length < 300) && decide (b.ru.length < 300) && decide (b.wt.length < 100)) by unfold smB; rw [hfin])
            have HBW := Lib.hid (HBA.out.trans (hbw.mono HBA.out.size))
            clear hsum hig hbw hfin
            by_cases hn : n < 300
            · have v2 : ((b.tb.length : Nat) : Int) < 300 ∨ ¬ ((b.tb.length : Nat) : Int) < 300 := Decidable.em _
              have v3 : ((b.ru.length : Nat) : Int) < 300 ∨ ¬ ((b.ru.length : Nat) : Int) < 300 := Decidable.em _
              have v4 : ((b.wt.length : Nat) : Int) < 100 ∨ ¬ ((b.wt.length : Nat) : Int) < 100 := Decidable.em _
              rcases v2 with v2 | v2 <;> rcases v3 with v3 | v3 <;> rcases v4 with v4 | v4 <;> (go_wp2; go_ret; exact ⟨by rw [HSB.out]; congr 2; simp; omega, HBW.out⟩)
            · go_wp2
              go_ret
              exact ⟨by rw [HSB.out, decide_eq_false (show ¬ n < 300 by omega)]; rfl, HBW.out⟩
    · have hi2 : ¬ ((i : Nat) : Int) < ((b.tb.length : Nat) : Int) := by omega
      have hfin : smTs 0 b.tb = n := by rw [hsum, List.drop_eq_nil_of_le (by omega)]; rfl
      have H2 := Lib.hid (show SmRelR W b b.ru.length (.int .i64 0) (.int .i64 n) wr from ⟨0, n, by omega, rfl, rfl, by rw [hfin, List.drop_zero], hbw⟩)
      clear hsum hig hbw hfin
      go_wp2_with fail
      clear y0 y1
      go_loopg [6, 3] b.ru.length (fun g v6 v3 wr => SmRelR W b g v6 v3 wr)
      case atStart => exact H2.out
      case round =>
        obtain ⟨i, n, hig, rfl, rfl, hsum, hbw⟩ := hrel
        clear H2
        have y0 := cell_below hbw HY0.out
        have y1 := cell_below hbw HY1.out
        have y2 := cell_below hbw HY2.out
        by_cases hi : i < b.ru.length
        · have hi2 : ((i : Nat) : Int) < ((b.ru.length : Nat) : Int) := by omega
          by_cases hn : n < 300
          · obtain ⟨G, rfl⟩ : ∃ G, gk = G + 1 := ⟨gk - 1, by omega⟩
            obtain ⟨q, o, rfl, c⟩ := r0_at HU.out (i := i) (by rw [HLR.out]; exact hi)
            obtain ⟨po, pc, qo, qc, rs, e, hk1, hk2, hk3⟩ := rl_at HUR.out hi
            simp only [e] at c
            have c5 := c 5 (by omega)
            have c6 := c 6 (by omega)
            simp only [List.getElem?_cons_zero, List.getElem?_cons_succ] at c5 c6
            have HA6 := Lib.hid c6
            have a5 := cell_below hbw c5
            have a6 := cell_below hbw c6
            clear c5 c6
            obtain ⟨l1, l2, l3⟩ := HMR.out _ (List.getElem_mem hi)
            have hdr : b.ru.drop i = b.ru[i] :: b.ru.drop (i + 1) := List.drop_eq_getElem_cons hi
            rw [hdr, smRs, if_pos hn] at hsum
            generalize b.ru[i] = x at *
            have z1 : IntKind.i64.wrap (1 + ((x.ts.length : Nat) : Int)) = 1 + ((x.ts.length : Nat) : Int) := IntWalk.i64_in _ (by omega)
            have z2 : IntKind.i64.wrap (1 + ((x.ts.length : Nat) : Int) + ((x.ss.length : Nat) : Int)) = 1 + ((x.ts.length : Nat) : Int) + ((x.ss.length : Nat) : Int) := IntWalk.i64_in _ (by omega)
            have HS := Lib.hid hsum
            have HKR := Lib.hid hk2
            have HKS := Lib.hid hk3
            have HKL := Lib.hid (RlR.len hk3)
            have HK1 := Lib.hid l2
            have HK2 := Lib.hid l3
            have HIG := Lib.hid hig
            have HBW := Lib.hid (below_dq hbw)
            have zS := And.intro y1 (And.intro a5 a6)
            obtain ⟨n0, hn0⟩ : ∃ n0, IntKind.i64.wrap (n + (1 + ((x.ts.length : Nat) : Int) + ((x.ss.length : Nat) : Int))) = n0 := ⟨_, rfl⟩
            rw [hn0] at HS
            have H1 := Lib.hid (show SmRelS W x.ss n0 x.ss.length (.int .i64 0) (.int .i64 n0) wr.drew from ⟨0, n0, by omega, rfl, rfl, by rw [List.drop_zero], HBW.out⟩)
            clear c e hk1 hk2 hk3 l1 l2 l3 hdr hsum hig hbw
            go_wp2_with fail
            go_region_held3 (fun z => z.cell? ⟨w.heap.size, 1, none⟩ = some (.slice (some ⟨q, o, none⟩) b.ru.length rc) ∧ z.cell? ⟨q, o + i * 8 + 5, none⟩ = some (.slice po x.ts.length pc) ∧ z.cell? ⟨q, o + i * 8 + 6, none⟩ = some (.slice qo x.ss.length qc)) (first | exact zS) (fail)
            clear zS y0 y1 y2 a5 a6
            go_wp2_with fail
            go_loopg [7, 3] x.ss.length (fun g v7 v3 wr => SmRelS W x.ss n0 g v7 v3 wr)
            case atStart => exact H1.out
            case round =>
              obtain ⟨k, m, hkg, rfl, rfl, hks, hb2⟩ := hrel
              clear H1
              have y1 := cell_below hb2 HY1.out
              have a6 := cell_below hb2 HA6.out
              by_cases hk : k < x.ss.length
              · have hk2 : ((k : Nat) : Int) < ((x.ss.length : Nat) : Int) := by omega
                obtain ⟨H, rfl⟩ : ∃ H, gk = H + 1 := ⟨gk - 1, by omega⟩
                obtain ⟨q2, o2, rfl, c⟩ := r0_at HKR.out (i := k) (by rw [HKL.out]; exact hk)
                obtain ⟨p2, d2, e2, -⟩ := rl_at HKS.out hk
                simp only [e2] at c
                have c1 := c 1 (by omega)
                have l1 := HK2.out _ (List.getElem_mem hk)
                have hdk : x.ss.drop k = x.ss[k] :: x.ss.drop (k + 1) := List.drop_eq_getElem_cons hk
                rw [hdk, smSs] at hks
                generalize x.ss[k] = y at *
                simp only [List.getElem?_cons_zero, List.getElem?_cons_succ, Nat.add_zero] at c1
                have b1 := cell_below hb2 c1
                obtain ⟨m2, hm2⟩ : ∃ m2, IntKind.i64.wrap (m + ((y.ps.length : Nat) : Int)) = m2 := ⟨_, rfl⟩
                rw [hm2] at hks
                have HNX := Lib.hid (show SmRelS W x.ss n0 H (.int .i64 (((k : Nat) : Int) + 1)) (.int .i64 m2) wr from ⟨k + 1, _, by omega, rfl, rfl, hks, hb2⟩)
                have z6 : IntKind.i64.wrap (((k : Nat) : Int) + 1) = ((k : Nat) : Int) + 1 := IntWalk.i64_in _ (by have := HK1.out; omega)
                clear hks hdk hkg hb2 c c1 e2
                go_wp2
                go_roundg H
                case measure => omega
                case rel => exact HNX.out
              · have hk2 : ¬ ((k : Nat) : Int) < ((x.ss.length : Nat) : Int) := by omega
                have hke : x.ss.drop k = [] := List.drop_eq_nil_of_le (by omega)
                rw [hke] at hks
                have HS2 := Lib.hid (show smRs (smTs 0 b.tb) b.ru = smRs m (b.ru.drop (i + 1)) by rw [HS.out, hks]; rfl)
                have HNX := Lib.hid (show SmRelR W b G (.int .i64 (((i : Nat) : Int) + 1)) (.int .i64 m) wr from ⟨i + 1, m, by have := HIG.out; omega, rfl, rfl, HS2.out, hb2⟩)
                have z6 : IntKind.i64.wrap (((i : Nat) : Int) + 1) = ((i : Nat) : Int) + 1 := IntWalk.i64_in _ (by have := HM2.out; omega)
                clear hks hke hkg hb2
                go_wp2
                go_roundg G
                case measure => omega
                case rel => exact HNX.out
          · have hfin : smRs (smTs 0 b.tb) b.ru = n := by rw [hsum, smRs_stop hn]
            have HSB := Lib.hid (show smB b = (decide (n < 300) && decide (b.tb.length < 300) && decide (b.ru.length < 300) && decide (b.wt.length < 100)) by unfold smB; rw [hfin])
            have HBW := Lib.hid (HBA.out.trans (hbw.mono HBA.out.size))
            clear hsum hig hbw hfin
            go_wp2
            go_ret
            exact ⟨by rw [HSB.out, decide_eq_false (show ¬ n < 300 by omega)]; rfl, HBW.out⟩
        · have hi2 : ¬ ((i : Nat) : Int) < ((b.ru.length : Nat) : Int) := by omega
          have hfin : smRs (smTs 0 b.tb) b.ru = n := by rw [hsum, List.drop_eq_nil_of_le (by omega)]; rfl
          have HSB := Lib.hid (show smB b = (decide (n < 300) && decide (b.tb.length < 300) && decide (b.ru.length < 300) && decide (b.wt.length < 100)) by unfold smB; rw [hfin])
          have HBW := Lib.hid (HBA.out.trans (hbw.mono HBA.out.size))
          clear hsum hig hbw hfin
          by_cases hn : n < 300
          · have v2 : ((b.tb.length : Nat) : Int) < 300 ∨ ¬ ((b.tb.length : Nat) : Int) < 300 := Decidable.em _
            have v3 : ((b.ru.length : Nat) : Int) < 300 ∨ ¬ ((b.ru.length : Nat) : Int) < 300 := Decidable.em _
            have v4 : ((b.wt.length : Nat) : Int) < 100 ∨ ¬ ((b.wt.length : Nat) : Int) < 100 := Decidable.em _
            rcases v2 with v2 | v2 <;> rcases v3 with v3 | v3 <;> rcases v4 with v4 | v4 <;> (go_wp2; go_ret; exact ⟨by rw [HSB.out]; congr 2; simp; omega, HBW.out⟩)
          · go_wp2
            go_ret
            exact ⟨by rw [HSB.out, decide_eq_false (show ¬ n < 300 by omega)]; rfl, HBW.out⟩
end Go.Proofs.YtaeglmgpoboihaaGreatDoor
