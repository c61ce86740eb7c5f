/- slices.Compare, oid's Less, Child, walked: all calls of oid keep their word. -/
import Derived.Test.YtanainpapcblfaaDoorOidN
import Derived.Test.YtanainpapcblfaaDoorOidX
import Derived.Test.YtanainpapcblfaaDoorOidD
namespace Go.Proofs.YtanainpapcblfaaDoor
open Go.ChangeShapes Go.WideShapes Go.ChangeAt Go.RowKit K O6
set_option linter.unusedVariables false

def cmpV (a b : List Nat) : Int := if O6.lt a b then -1 else if a = b then 0 else 1
theorem cmpV_lt (a b : List Nat) : decide (cmpV a b < 0) = O6.lt a b := by
  unfold cmpV
  cases h : O6.lt a b
  · rw [if_neg (by simp)]
    by_cases e : a = b
    · rw [if_pos e]; rfl
    · rw [if_neg e]; rfl
  · rw [if_pos rfl]; rfl
theorem cmpV_at {a b : List Nat} {i : Nat} (h1 : i < a.length) (h2 : i < b.length) (h : ∀ j, j < i → a.getD j 0 = b.getD j 0) (hn : a.getD i 0 ≠ b.getD i 0) : cmpV a b = Lib.compareInt (a.getD i 0 : Nat) (b.getD i 0 : Nat) := by
  unfold cmpV Lib.compareInt
  rw [lt_at h1 h2 h hn, if_neg (fun e : a = b => hn (by rw [e]))]
  by_cases hl : a.getD i 0 < b.getD i 0
  · rw [if_pos (by rw [decide_eq_true_eq]; exact hl), if_pos (by omega)]
  · rw [if_neg (by rw [decide_eq_true_eq]; exact hl), if_neg (by omega), if_pos (by omega)]
theorem cmpV_long {a b : List Nat} (hl : b.length < a.length) (h : ∀ j, j < b.length → a.getD j 0 = b.getD j 0) : cmpV a b = 1 := by
  unfold cmpV
  rw [lt_end (fun j _ h2 => h j h2), if_neg (by rw [decide_eq_true_eq]; omega), if_neg (fun e : a = b => by rw [e] at hl; omega)]
theorem cmpV_short {a b : List Nat} (hl : a.length < b.length) (h : ∀ j, j < a.length → a.getD j 0 = b.getD j 0) : cmpV a b = -1 := by
  unfold cmpV
  rw [lt_end (fun j h1 _ => h j h1), if_pos (by rw [decide_eq_true_eq]; exact hl)]
theorem cmpV_same {a b : List Nat} (hl : a.length = b.length) (h : ∀ j, j < a.length → a.getD j 0 = b.getD j 0) : cmpV a b = 0 := by
  unfold cmpV
  rw [lt_end (fun j h1 _ => h j h1), if_neg (by rw [decide_eq_true_eq]; omega), if_pos (same_of hl h)]
def CmRel (a b : List Nat) (w : World) (g : Nat) (v : Value) (wr : World) : Prop :=
  ∃ i, i + g = a.length ∧ i ≤ b.length ∧ v = .int .i64 (i : Nat) ∧ (∀ j, j < i → a.getD j 0 = b.getD j 0) ∧ wr = w
set_option maxRecDepth 100000 in
set_option maxHeartbeats 2000000 in
theorem compare_walk (a b : List Nat) (ha : a.length ≤ 1000000) (hb : b.length ≤ 1000000) (ao bo : Option Addr) (ca cb : Nat) (w : World) (h1 : RdZ w ao a.length (fz a)) (h2 : RdZ w bo b.length (fz b)) :
    Calls Tryd.prog 49 #[.slice ao a.length ca, .slice bo b.length cb] w fun e w' => e = .returned (.int .i64 (cmpV a b)) ∧ ∃ q, w' = w.drewN q := by
  have HA := Lib.hid h1
  have HB := Lib.hid h2
  clear h1 h2
  go_enter Tryd.func49, Tryd.ntmps49
  go_wp2
  go_loopg [11] a.length (fun g v wr => CmRel a b w g v wr)
  case atStart => exact ⟨0, by omega, Nat.zero_le _, rfl, fun j hj => by omega, rfl⟩
  case round =>
    obtain ⟨i, hig, hib, rfl, hall, rfl⟩ := hrel
    cases gk with
    | zero =>
      obtain rfl : i = a.length := by omega
      by_cases hl : a.length < b.length
      · have hl' : ((a.length : Nat) : Int) < (b.length : Nat) := by omega
        have HV := Lib.hid (cmpV_short hl hall)
        clear hall HA HB hl
        go_wp2
        go_ret
        rw [HV.out]
        exact ⟨rfl, 0, rfl⟩
      · have hl' : ((b.length : Nat) : Int) ≤ (a.length : Nat) := by omega
        have HV := Lib.hid (cmpV_same (by omega) hall)
        clear hall HA HB hl
        go_wp2
        go_ret
        rw [HV.out]
        exact ⟨rfl, 0, rfl⟩
    | succ g =>
      have hin : i < a.length := by omega
      rcases HA.out with h0 | ⟨ga, oa, rfl, _, hca⟩
      · omega
      · have c1 := hca i hin
        by_cases hbl : i < b.length
        · rcases HB.out with h0 | ⟨gb, ob, rfl, _, hcb⟩
          · omega
          · have c2 := hcb i hbl
            have hbl' : ((i : Nat) : Int) < (b.length : Nat) := by omega
            unfold fz at c1 c2
            have HAT := Lib.hid (fun h => cmpV_at hin hbl hall h)
            have HAL := Lib.hid hall
            clear hca hcb hall
            generalize hx : a.getD i 0 = x at *
            generalize hy : b.getD i 0 = y at *
            have HX := Lib.hid hx
            have HY := Lib.hid hy
            clear hx hy
            by_cases he : x = y
            · have hcz : Lib.compareInt (x : Nat) (y : Nat) = 0 := by unfold Lib.compareInt; rw [if_neg (by omega), if_neg (by omega)]
              have HC := Lib.hid (Tryd.cmp_Compare_int (x : Nat) (y : Nat) wr)
              rw [hcz] at HC
              have HE := Lib.hid he
              clear hcz HAT he
              go_wp2_with fail
              refine HC.out.mono ?_
              rintro e w1 ⟨rfl, rfl⟩
              go_wp2
              go_roundg g
              case measure => omega
              case rel =>
                refine ⟨i + 1, by omega, by omega, by simp, fun j hj => ?_, rfl⟩
                rcases Nat.lt_or_ge j i with h3 | h3
                · exact HAL.out j h3
                · obtain rfl : j = i := by omega
                  rw [HX.out, HY.out]; exact HE.out
            · have hv := HAT.out he
              have HC := Lib.hid (Tryd.cmp_Compare_int (x : Nat) (y : Nat) wr)
              rw [← hv] at HC
              have hz : (cmpV a b != 0) = true := by
                rw [bne_iff_ne, hv]
                unfold Lib.compareInt
                by_cases h1 : (x : Int) < (y : Int)
                · rw [if_pos h1]; decide
                · rw [if_neg h1, if_pos (by omega)]; decide
              generalize hVV : cmpV a b = V at *
              have HVV := Lib.hid hVV
              clear hv HAT he HAL hVV
              go_wp2_with fail
              refine HC.out.mono ?_
              rintro e w1 ⟨rfl, rfl⟩
              go_wp2
              go_ret
              rw [HVV.out]
              exact ⟨rfl, 0, rfl⟩
        · obtain rfl : i = b.length := by omega
          have HV := Lib.hid (cmpV_long hin hall)
          clear hca hall HB hbl
          go_wp2
          go_ret
          rw [HV.out]
          exact ⟨rfl, 0, rfl⟩
set_option maxRecDepth 100000 in
set_option maxHeartbeats 2000000 in
theorem less_walk (r s : List UInt8) (hr : r.length ≤ 1000000) (hs : s.length ≤ 1000000) (w : World) (T : Tabs w) :
    Calls Tryd.prog 25 #[.string (bs r), .string (bs s)] w fun e w' => e = .returned (.bool (lsZ r s)) ∧ Below w.heap.size w w' := by
  have HB := Lib.hid (both_walk r s hr hs w T)
  unfold BoPost at HB
  have hlr := arL_len r
  have hls := arL_len s
  cases hok : ((arcs r).isSome && (arcs s).isSome)
  · rw [hok] at HB
    have HW := Lib.hid (show lsZ r s = false by unfold lsZ; rw [← Bool.and_assoc, hok]; rfl)
    clear hok
    go_enter Tryd.func25, Tryd.ntmps25
    go_wp2_with fail
    refine HB.out.mono ?_
    rintro e w1 ⟨va, vb, rfl, b1, ⟨o1, n1, d1, rfl⟩, ⟨o2, n2, d2, rfl⟩, -⟩
    go_wp2_with fail
    try go_quiet (fail)
    try go_wp2
    go_ret
    rw [HW.out]
    exact ⟨rfl, by first | exact b1 | exact Below_drewNg b1 _⟩
  · rw [hok] at HB
    have HW := Lib.hid (show decide (cmpV (arL r) (arL s) < 0) = lsZ r s by rw [cmpV_lt]; unfold lsZ; rw [← Bool.and_assoc, hok]; rfl)
    generalize arL r = A at *
    generalize arL s = B at *
    have HC := Lib.hid (fun ao bo ca cb w1 (h1 : RdZ w1 ao A.length (fz A)) (h2 : RdZ w1 bo B.length (fz B)) => compare_walk A B (by omega) (by omega) ao bo ca cb w1 h1 h2)
    clear hok
    generalize cmpV A B = V at *
    go_enter Tryd.func25, Tryd.ntmps25
    go_wp2_with fail
    refine HB.out.mono ?_
    rintro e w1 ⟨va, vb, rfl, b1, -, -, ho⟩
    obtain ⟨hoa, hob⟩ := ho trivial
    obtain ⟨ao, ca, rfl, hza⟩ := RdZ.own hoa
    obtain ⟨bo, cb, rfl, hzb⟩ := RdZ.own hob
    have HZA := Lib.hid hza
    have HZB := Lib.hid hzb
    clear ho hoa hob hza hzb
    go_wp2_with fail
    refine (HC.out _ _ _ _ _ HZA.out HZB.out).mono ?_
    rintro e w2 ⟨rfl, q, rfl⟩
    have b2 := Below_drewNg b1 q
    go_wp2
    go_ret
    rw [← HW.out]
    exact ⟨rfl, b2⟩
set_option maxRecDepth 100000 in
set_option maxHeartbeats 2000000 in
theorem child_walk (s : List UInt8) (hs : s.length ≤ 1000000) (x : Int) (x0 : -9223372036854775808 ≤ x) (x1 : x ≤ 9223372036854775807) (w : World) (T : Tabs w) :
    Calls Tryd.prog 19 #[.string (bs s), .int .i64 x] w fun e w' => e = .returned (.tuple #[.string (bs (chS s x)), .int .i64 (chE s x : Nat)]) ∧ Below w.heap.size w w' := by
  have HA := Lib.hid (arcs_walk s hs w T)
  have HT := Lib.hid T
  have HI := Lib.hid (fun w1 => isArc_walk x w1)
  unfold ArPost at HA
  clear T
  cases hx : arcs s with
  | none =>
    rw [(ch_none hx x).1, (ch_none hx x).2]
    rw [(ar_none hx).1, (ar_none hx).2] at HA
    clear hx
    go_enter Tryd.func19, Tryd.ntmps19
    go_wp2_with fail
    refine HA.out.mono ?_
    rintro e w1 ⟨v, rfl, ho, d1⟩
    obtain ⟨ao, cap, rfl, _⟩ := ho.form
    clear ho
    go_wp2
    go_ret2
    exact ⟨rfl, d1⟩
  | some l =>
    obtain ⟨hia, _⟩ := (arcs_iff s l).1 hx
    have hlen := isArcs_len hia
    rw [(ar_some hx).1, (ar_some hx).2] at HA
    cases hr : inR x
    · rw [(ch_far hx hr).1, (ch_far hx hr).2]
      rw [hr] at HI
      clear hx hr hia
      go_enter Tryd.func19, Tryd.ntmps19
      go_wp2_with fail
      refine HA.out.mono ?_
      rintro e w1 ⟨v, rfl, ho, d1⟩
      obtain ⟨ao, cap, rfl, _⟩ := ho.form
      clear ho
      go_wp2_with fail
      refine (HI.out w1).mono ?_
      rintro e w2 ⟨rfl, rfl⟩
      go_wp2
      go_ret2
      exact ⟨rfl, d1⟩
    · have hxr : 0 ≤ x ∧ x ≤ 4294967295 := by
        unfold inR at hr
        rw [Bool.and_eq_true, decide_eq_true_eq, decide_eq_true_eq] at hr
        exact hr
      rw [hr] at HI
      obtain ⟨X, rfl⟩ := Int.eq_ofNat_of_zero_le hxr.1
      have hch := ch_some hx hr
      rw [Int.toNat_natCast] at hch
      have HCH := Lib.hid hch
      have hX0 : (0 : Int) ≤ (X : Nat) := by omega
      have hX1 : ((X : Nat) : Int) ≤ 4294967295 := by omega
      clear hx hr hia hch hxr
      obtain ⟨i0, hi, hz0, hz1, hz2⟩ := info_of int_info6
      go_enter Tryd.func19, Tryd.ntmps19
      go_wp2_with fail
      refine HA.out.mono ?_
      rintro e w1 ⟨v, rfl, ho, d1⟩
      obtain ⟨ao, cap, rfl, _⟩ := ho.form
      have HO := Lib.hid ho
      clear ho
      go_wp2_with fail
      refine (HI.out w1).mono ?_
      rintro e w2 ⟨rfl, rfl⟩
      have ho := HO.out
      clear HO
      go_wp2_with (at_builtin; refine wpList_append_own _ rfl _ _ 23 rfl w.heap.size 3 i0 (.int .i64 0) 1 8 Tryd.underlying23 hi hz0 hz1 hz2 rfl (by decide) _ _ _ rfl (World.ownsRow.alloc ho _) ⟨w1.heap.size, 0, none⟩ 1 1 [.int .i64 (X : Nat)] rfl rfl ?c1 ?c2 ?c3 ?c4 ?c5 ?_)
      case c1 =>
        intro j u hj
        match j, hj with
        | 0, hj => simp at hj; subst hj; simp [Addr.add]
      case c2 => intro u hu; simp at hu; subst hu; rfl
      case c3 => unfold maxLen; omega
      case c4 => omega
      case c5 => have := d1.size; simp; omega
      intro v3 w3 hown3 hgrow3 _
      have h3 : OwnI w3 w.heap.size 3 v3 (l ++ [X]) := OwnI.put hown3
      have b3 := (d1.alloc d1.size (.cells #[.int .i64 (X : Nat)] 3)).grown hgrow3 (by have := d1.size; simp; omega) (fun k hk => (World.ownsRow.lt ho k hk).1)
      clear hown3 hgrow3 ho d1
      obtain ⟨ao3, cap3, rfl, hz⟩ := RdZ.own h3
      have hT := text_walk ao3 (l ++ [X]).length cap3 (fz (l ++ [X])) w3 (l ++ [X]) (by rw [List.length_append]; simp; omega) hz (fun h => ⟨rfl, by rw [← isZ_fz]; exact h, fun i _ => rfl⟩) (HT.out.below b3)
      rw [isZ_fz] at hT
      have hl1 : (l ++ [X]).length = l.length + 1 := by simp
      rw [hl1] at hT ⊢
      have HTT := Lib.hid hT
      clear hT hz h3 hl1
      cases hia : isArcs (l ++ [X])
      all_goals
        rw [hia] at HTT HCH
        simp only [Bool.false_eq_true, if_false, if_true] at HTT HCH
        clear hia
        go_wp2_with fail
        refine HTT.out.mono ?_
        rintro e w4 ⟨rfl, d4⟩
        go_wp2
        go_ret2
        rw [HCH.out.1, HCH.out.2]
        exact ⟨rfl, b3.trans (d4.mono b3.size)⟩
/-- All calls of oid keep their word, where the library's tables stand. -/
theorem oid_ok : OidOk Tabs where
  keep := fun _ _ h k => h.below k
  arcs := fun s w hs h => arcs_walk s hs w h
  text := fun ao n cap f w cs hn hr hc h => text_walk ao n cap f w cs hn hr hc h
  encode := fun s w hs h => encode_walk s hs w h
  decode := fun b w hb h => decode_walk b hb w h
  within := fun r s w hr hs h => within_walk r s hr hs w h
  less := fun r s w hr hs h => less_walk r s hr hs w h
  child := fun s x w hs x0 x1 h => child_walk s hs x x0 x1 w h
  rest := fun r s w hr hs h => rest_walk r s hr hs w h
end Go.Proofs.YtanainpapcblfaaDoor
