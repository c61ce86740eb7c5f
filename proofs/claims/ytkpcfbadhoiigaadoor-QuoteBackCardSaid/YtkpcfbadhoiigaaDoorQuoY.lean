/- QuoteBack, on calls that keep their word. -/
import Derived.Test.YtkpcfbadhoiigaaDoorQuoX
import Derived.Test.YtkpcfbadhoiigaaDoorShelf
import Derived.Lib.Strings
namespace Go.Proofs.YtkpcfbadhoiigaaDoor
open Go.ChangeShapes Go.WideShapes Go.ChangeAt Go.RowKit K Q10 U4
set_option linter.unusedVariables false

theorem prefix10_walk (l p : List UInt8) (w : World) :
    Calls Tryd.prog 25 #[.string (bs l), .string (bs p)] w fun e w' => e = .returned (.bool (Lib.hasPrefix l p)) ∧ w = w' := by
  have h := Tryd.strings_HasPrefix (bs l) (bs p) w
  rw [bs_toList, bs_toList] at h
  exact h.mono fun _ _ ⟨a, b⟩ => ⟨a, b.symm⟩
theorem suffix10_walk (l p : List UInt8) (hl : l.length ≤ 1000000) (w : World) :
    Calls Tryd.prog 26 #[.string (bs l), .string (bs p)] w fun e w' => e = .returned (.bool (Lib.hasSuffix l p)) ∧ w = w' := by
  have h := Tryd.strings_HasSuffix (bs l) (bs p) w (by rw [bs_size]; omega)
  rw [bs_toList, bs_toList] at h
  exact h.mono fun _ _ ⟨a, b⟩ => ⟨a, b.symm⟩
theorem psT_bound : ∀ (ps : List Pm), ps.all smP = true → (psT ps).length ≤ ps.length * 2104
  | [], _ => by simp [psT]
  | p :: ps, h => by
    simp only [List.all_cons, Bool.and_eq_true, smP, decide_eq_true_eq] at h
    have ih := psT_bound ps (by simpa only [smP] using h.2)
    have := esc_le p.v
    rw [psT_cons, List.length_append, List.length_cons]
    have e : (pmT p).length = p.n.length + (esc p.v).length + 4 := by unfold pmT; simp; omega
    omega
theorem elsT_bound : ∀ (l : List El), l.all smE = true → (elsT l).length ≤ l.length * 42182
  | [], _ => by simp [elsT]
  | x :: l, h => by
    simp only [List.all_cons, Bool.and_eq_true] at h
    have ih := elsT_bound l h.2
    have h1 := h.1
    simp only [smE, Bool.and_eq_true, decide_eq_true_eq] at h1
    have hp := psT_bound x.ps h1.2.2
    rw [elsT_cons, List.length_append, List.length_cons]
    have e : (elT x).length = x.id.length + (psT x.ps).length + 2 := by unfold elT; simp; omega
    omega
theorem smE_lim {x : El} (h : smE x = true) : LimE x := by
  simp only [smE, Bool.and_eq_true, decide_eq_true_eq, List.all_eq_true] at h
  refine ⟨by omega, by omega, fun p hp => ?_⟩
  have := h.2.2 p hp
  simp only [smP, Bool.and_eq_true, decide_eq_true_eq] at this
  omega
theorem sm_what {l : List El} (h : smQ l = true) : LimL l ∧ (okL l = true → (elsT l).length ≤ 10000000) := by
  unfold smQ at h
  simp only [Bool.and_eq_true, Bool.not_eq_true', Bool.or_eq_false_iff, Bool.and_eq_false_iff, decide_eq_false_iff_not] at h
  obtain ⟨⟨h1, h2⟩, h3⟩ := h
  have hall : l.length ≤ 4096 → l.length ≤ 20 ∧ l.all smE = true := fun h4 => by
    have h20 : l.length ≤ 20 := by omega
    refine ⟨h20, ?_⟩
    rw [List.take_of_length_le (by omega)] at h3
    exact h3
  refine ⟨fun h4 x hx => smE_lim (List.all_eq_true.1 (hall h4).2 x hx), fun ho => ?_⟩
  obtain ⟨h20, ha⟩ := hall (put_okL ho)
  have := elsT_bound l ha
  omega
theorem pa_small {s : List UInt8} {l : List El} {r : List UInt8} (h : pa s = some (l, r)) : ∀ x ∈ l, Sml s.length x := by
  by_cases h45 : ∃ t, s = 45 :: t
  · obtain ⟨t, rfl⟩ := h45
    have e : pa (45 :: t) = some ([], t) := rfl
    rw [e] at h
    simp only [Option.some.injEq, Prod.mk.injEq] at h
    obtain ⟨rfl, rfl⟩ := h
    intro x hx; cases hx
  · obtain ⟨h1, h2⟩ := pa_what (l := s) (fun r e => h45 ⟨r, e⟩)
    cases he : elsL s with
    | none => rw [h1 he] at h; cases h
    | some q =>
      obtain ⟨es, z⟩ := q
      rw [h2 es z he] at h
      split at h
      · simp only [Option.some.injEq, Prod.mk.injEq] at h
        obtain ⟨rfl, rfl⟩ := h
        exact els_small _ _ (Nat.le_refl _) _ _ he
      · cases h
theorem sml_bnds {n : Nat} {l : List El} (hn : n ≤ 1000000) (hl : l.length ≤ n) (h : ∀ x ∈ l, Sml n x) : Bnds l :=
  ⟨by omega, fun x hx => ⟨by have := (h x hx).1; omega, by have := (h x hx).2.1; omega, fun p hp => by have := (h x hx).2.2 p hp; omega⟩⟩
theorem okL_of_pr {l : List El} (h : prE l = 0) : okL l = true := by
  unfold prE at h
  cases ho : okL l
  · rw [ho] at h; cases h
  · rfl
theorem pr_zero {l : List El} (h : prE l = 0) : okL l = true ∧ (put l).length ≤ 65536 ∧ prS l = put l := by
  have ho := okL_of_pr h
  unfold prE at h
  rw [ho] at h
  by_cases hl : (put l).length ≤ 65536
  · exact ⟨ho, hl, by unfold prS; rw [ho, if_pos hl]; rfl⟩
  · simp [hl] at h
/-- What a text that is short tells, and what may be done with it. -/
theorem back_cases (s : List UInt8) (hs : s.length ≤ 1000) : (paL s = [] ∧ paR s = [] ∧ paE s = 100) ∨
    ∃ k r, paL s = k ∧ paR s = r ∧ paE s = 0 ∧ Bnds k ∧ LimL k ∧ (okL k = true → (elsT k).length ≤ 10000000) ∧ prS k = put k ∧ prE k = 0 ∧ pa (put k) = some (k, []) ∧ (put k).length ≤ 10000000 ∧ Lib.hasSuffix s r = true := by
  cases hp : pa s with
  | none => exact .inl (pa_no hp)
  | some q =>
    obtain ⟨k, r⟩ := q
    obtain ⟨ho, h1, h2, u, hu⟩ := pa_some hp
    have hsm := pa_small hp
    have hput : (put k).length ≤ 2000 := by omega
    refine .inr ⟨k, r, (pa_of hp).1, (pa_of hp).2.1, (pa_of hp).2.2, sml_bnds (n := s.length) (by omega) h2 hsm, fun _ x hx => (hsm x hx).lim (by omega), fun _ => ?_, ?_, ?_, ?_, by omega, ?_⟩
    · unfold put at hput
      cases k with
      | nil => simp [elsT]
      | cons a b => simp only [List.isEmpty_cons, Bool.false_eq_true, if_false] at hput; omega
    · unfold prS; rw [ho, if_pos rfl, if_pos (by omega)]
    · unfold prE; rw [ho, if_pos rfl, if_pos (by omega)]
    · have := pa_put ho (r := []) (by simp)
      rw [List.append_nil] at this; exact this
    · unfold Lib.hasSuffix
      rw [List.isSuffixOf_iff_suffix]
      exact ⟨u, hu.symm⟩
theorem hasPrefix_one (l : List UInt8) (b : UInt8) : Lib.hasPrefix l [b] = true ↔ ∃ t, l = b :: t := by
  unfold Lib.hasPrefix
  cases l with
  | nil => simp [List.isPrefixOf]
  | cons a t =>
    constructor
    · intro h
      simp [List.isPrefixOf] at h
      exact ⟨t, by rw [h]⟩
    · rintro ⟨u, hu⟩
      injection hu with h1 _
      simp [List.isPrefixOf, h1]
set_option maxRecDepth 100000 in
set_option maxHeartbeats 8000000 in
theorem quoteBack_walk (I : World → Prop) (KK : Keeps I) (KP : HParse I) (KS : HSame I) (KPr : HPrint I) (KC : HCheck I) (l : List El) (ao : Option Addr) (cap : Nat) (hB : Bnds l) (rest s : List UInt8) (hrl : rest.length ≤ 140737488351232) (hsl0 : s.length ≤ 140737488351232) (w : World) (hw : I w) (hr : RdE w ao l) :
    Calls Tryd.prog 5 #[.slice ao l.length cap, .string (bs rest), .string (bs s)] w fun e w' => e = .returned (.bool true) ∧ Below w.heap.size w w' := by
  have HW := Lib.hid (works10_walk I KK KP KS w hw)
  have HSM := Lib.hid (fun w1 h => small10_walk l ao cap hB w1 h)
  have HR := Lib.hid (fun w1 (b : Below w.heap.size w w1) => hr.below b)
  have HK := Lib.hid (fun w1 (b : Below w.heap.size w w1) => KK w w1 hw b)
  cases hs : smQ l
  · rw [hs] at HSM
    clear hs hr
    go_enter Tryd.func5, Tryd.ntmps5
    go_wp2_with fail
    refine HW.out.mono ?_
    rintro e w1 ⟨rfl, b1⟩
    go_wp2_with fail
    refine (HSM.out _ (HR.out _ b1)).mono ?_
    rintro e w2 ⟨rfl, m2, rfl⟩
    have b2 := bdr b1 m2
    clear b1
    generalize w1.drewN m2 = w2 at *
    go_wp2
    go_ret
    exact ⟨rfl, b2⟩
  rw [hs] at HSM
  by_cases hr1 : rest.length ≤ 1000
  rotate_left
  · have h1 : (1000 : Int) < (rest.length : Nat) := by omega
    clear hs hr hr1
    go_enter Tryd.func5, Tryd.ntmps5
    go_wp2_with fail
    refine HW.out.mono ?_
    rintro e w1 ⟨rfl, b1⟩
    go_wp2_with fail
    refine (HSM.out _ (HR.out _ b1)).mono ?_
    rintro e w2 ⟨rfl, m2, rfl⟩
    have b2 := bdr b1 m2
    clear b1
    generalize w1.drewN m2 = w2 at *
    go_wp2
    go_ret
    exact ⟨rfl, b2⟩
  have h1 : ¬ (1000 : Int) < (rest.length : Nat) := by omega
  by_cases hs1 : s.length ≤ 1000
  rotate_left
  · have h2 : (1000 : Int) < (s.length : Nat) := by omega
    clear hs hr hr1
    go_enter Tryd.func5, Tryd.ntmps5
    go_wp2_with fail
    refine HW.out.mono ?_
    rintro e w1 ⟨rfl, b1⟩
    go_wp2_with fail
    refine (HSM.out _ (HR.out _ b1)).mono ?_
    rintro e w2 ⟨rfl, m2, rfl⟩
    have b2 := bdr b1 m2
    clear b1
    generalize w1.drewN m2 = w2 at *
    go_wp2
    go_ret
    exact ⟨rfl, b2⟩
  have h2 : ¬ (1000 : Int) < (s.length : Nat) := by omega
  have hcase := back_cases s hs1
  have hsl : s.length ≤ 1000000 := by omega
  obtain ⟨hlim, hput⟩ := sm_what hs
  have HPR := Lib.hid (fun w1 (h : I w1) (h2 : RdE w1 ao l) => KPr l ao cap w1 hB hlim hput h h2)
  have HPS := Lib.hid (fun w1 (h : I w1) => KP s w1 (by omega) h)
  unfold PaQ at HPS
  have HPX := Lib.hid (fun w1 => prefix10_walk rest [91] w1)
  have hx91 : bs [91] = ({ data := #[91] } : ByteArray) := rfl
  rw [hx91] at HPX
  have hpl0 : prE l = 0 ∨ prE l = 2 ∨ prE l = 100 := by
    unfold prE; split
    · split
      · exact .inl rfl
      · exact .inr (.inl rfl)
    · exact .inr (.inr rfl)
  clear hs hr hx91 hlim hput
  cases hpx : Lib.hasPrefix rest [91]
  · rw [hpx] at HPX
    have hR : ∀ t, rest ≠ 91 :: t := fun t e => by rw [(hasPrefix_one rest 91).2 ⟨t, e⟩] at hpx; cases hpx
    clear hpx
    rcases hpl0 with hp0 | hp0 | hp0
    · obtain ⟨ho, hp6, hp7⟩ := pr_zero hp0
      rw [hp0, hp7] at HPR
      have hpa := pa_put ho hR
      have HPL := Lib.hid hp6
      have HPA := Lib.hid (fun w1 (h : I w1) => KP (put l ++ rest) w1 (by rw [List.length_append]; omega) h)
      unfold PaQ at HPA
      rw [(pa_of hpa).1, (pa_of hpa).2.1, (pa_of hpa).2.2] at HPA
      have HSL := Lib.hid (fun qo qc w1 (h : I w1) (h1 : RdE w1 qo l) (h2 : RdE w1 ao l) => KS l l qo ao qc cap w1 hB hB h h1 h2)
      have hll : saE l l = true := saE_yes rfl
      rw [hll] at HSL
      clear hpa ho hp6 hp7 hp0 hll hR
      go_enter Tryd.func5, Tryd.ntmps5
      go_wp2_with fail
      refine HW.out.mono ?_
      rintro e w1 ⟨rfl, b1⟩
      go_wp2_with fail
      refine (HSM.out _ (HR.out _ b1)).mono ?_
      rintro e w2 ⟨rfl, m2, rfl⟩
      have b2 := bdr b1 m2
      clear b1
      generalize w1.drewN m2 = w2 at *
      go_wp2_with fail
      refine (HPX.out _).mono ?_
      rintro e w3 ⟨rfl, rfl⟩
      go_wp2_with fail
      refine (HPR.out _ (HK.out _ b2) (HR.out _ b2)).mono ?_
      rintro e w4 ⟨rfl, d4⟩
      have b4 := b2.trans (d4.mono b2.size)
      clear d4 b2
      have hpl : (put l).length ≤ 65536 := HPL.out
      go_wp2_with fail
      refine (HPA.out _ (HK.out _ b4)).mono ?_
      rintro e w5 ⟨qo, qc, rfl, hq5, d5⟩
      have b5 := b4.trans (d5.mono b4.size)
      clear d5 b4
      go_wp2_with fail
      refine (HSL.out qo qc _ (HK.out _ b5) hq5 (HR.out _ b5)).mono ?_
      rintro e w6 ⟨rfl, d6⟩
      have b6 := b5.trans (d6.mono b5.size)
      clear d6 b5 hq5
      go_wp2_with fail
      refine (HPS.out _ (HK.out _ b6)).mono ?_
      rintro e wk ⟨ko, kc, rfl, hkr, dk⟩
      have bk := b6.trans (dk.mono b6.size)
      clear dk
      rcases hcase with ⟨hp1, hp2, hp3⟩ | ⟨k, r, hp1, hp2, hp3, hkB, hkL, hkP, hkS, hkE, hkO, hmB, hsuf⟩
      · rw [hp1, hp2, hp3] at *
        clear hkr
        go_wp2
        go_ret
        exact ⟨rfl, bk⟩
      · rw [hp1] at hkr
        rw [hp1, hp2, hp3]
        have HKR := Lib.hid hkr
        have HP2 := Lib.hid (fun w1 (h : I w1) (h2 : RdE w1 ko k) => KPr k ko kc w1 hkB hkL hkP h h2)
        rw [hkS, hkE] at HP2
        have HP3 := Lib.hid (fun w1 (h : I w1) => KP (put k) w1 hmB h)
        unfold PaQ at HP3
        rw [(pa_of hkO).1, (pa_of hkO).2.1, (pa_of hkO).2.2] at HP3
        have HS2 := Lib.hid (fun mo mc w1 (h : I w1) (h1 : RdE w1 ko k) (h2 : RdE w1 mo k) => KS k k ko mo kc mc w1 hkB hkB h h1 h2)
        have hkk : saE k k = true := saE_yes rfl
        rw [hkk] at HS2
        have HC2 := Lib.hid (fun w1 (h : I w1) (h2 : RdE w1 ko k) => KC k ko kc w1 hkB hkL h h2)
        have hck : ckE k = 0 := ckE_yes (okL_of_pr hkE)
        rw [hck] at HC2
        have HSF := Lib.hid (fun w1 => suffix10_walk s r hsl w1)
        rw [hsuf] at HSF
        clear hkr hp1 hp2 hp3 hkB hkL hkP hkS hkE hkO hmB hsuf hkk hck
        go_wp2_with fail
        refine (HP2.out _ (HK.out _ bk) HKR.out).mono ?_
        rintro e w2 ⟨rfl, d2⟩
        have bm := bk.trans (d2.mono bk.size)
        have hk2 := HKR.out.below d2
        clear d2
        go_wp2_with fail
        refine (HP3.out _ (HK.out _ bm)).mono ?_
        rintro e w3 ⟨mo, mc, rfl, hm3, d3⟩
        have bn := bm.trans (d3.mono bm.size)
        have hk3 := hk2.below d3
        clear d3 hk2 bm bk
        go_wp2_with fail
        refine (HS2.out mo mc _ (HK.out _ bn) hk3 hm3).mono ?_
        rintro e w4 ⟨rfl, d4⟩
        have bo := bn.trans (d4.mono bn.size)
        have hk4 := hk3.below d4
        clear d4 hk3 hm3 bn
        go_wp2_with fail
        refine (HSF.out _).mono ?_
        rintro e w5 ⟨rfl, rfl⟩
        go_wp2_with fail
        refine (HC2.out _ (HK.out _ bo) hk4).mono ?_
        rintro e w6 ⟨rfl, d6⟩
        have bp := bo.trans (d6.mono bo.size)
        clear d6 hk4 bo
        go_wp2
        go_ret
        exact ⟨rfl, bp⟩
    · rw [hp0] at HPR
      clear hp0 hR
      go_enter Tryd.func5, Tryd.ntmps5
      go_wp2_with fail
      refine HW.out.mono ?_
      rintro e w1 ⟨rfl, b1⟩
      go_wp2_with fail
      refine (HSM.out _ (HR.out _ b1)).mono ?_
      rintro e w2 ⟨rfl, m2, rfl⟩
      have b2 := bdr b1 m2
      clear b1
      generalize w1.drewN m2 = w2 at *
      go_wp2_with fail
      refine (HPX.out _).mono ?_
      rintro e w3 ⟨rfl, rfl⟩
      go_wp2_with fail
      refine (HPR.out _ (HK.out _ b2) (HR.out _ b2)).mono ?_
      rintro e w4 ⟨rfl, d4⟩
      have b4 := b2.trans (d4.mono b2.size)
      clear d4 b2
      go_wp2_with fail
      refine (HPS.out _ (HK.out _ b4)).mono ?_
      rintro e wk ⟨ko, kc, rfl, hkr, dk⟩
      have bk := b4.trans (dk.mono b4.size)
      clear dk
      rcases hcase with ⟨hp1, hp2, hp3⟩ | ⟨k, r, hp1, hp2, hp3, hkB, hkL, hkP, hkS, hkE, hkO, hmB, hsuf⟩
      · rw [hp1, hp2, hp3] at *
        clear hkr
        go_wp2
        go_ret
        exact ⟨rfl, bk⟩
      · rw [hp1] at hkr
        rw [hp1, hp2, hp3]
        have HKR := Lib.hid hkr
        have HP2 := Lib.hid (fun w1 (h : I w1) (h2 : RdE w1 ko k) => KPr k ko kc w1 hkB hkL hkP h h2)
        rw [hkS, hkE] at HP2
        have HP3 := Lib.hid (fun w1 (h : I w1) => KP (put k) w1 hmB h)
        unfold PaQ at HP3
        rw [(pa_of hkO).1, (pa_of hkO).2.1, (pa_of hkO).2.2] at HP3
        have HS2 := Lib.hid (fun mo mc w1 (h : I w1) (h1 : RdE w1 ko k) (h2 : RdE w1 mo k) => KS k k ko mo kc mc w1 hkB hkB h h1 h2)
        have hkk : saE k k = true := saE_yes rfl
        rw [hkk] at HS2
        have HC2 := Lib.hid (fun w1 (h : I w1) (h2 : RdE w1 ko k) => KC k ko kc w1 hkB hkL h h2)
        have hck : ckE k = 0 := ckE_yes (okL_of_pr hkE)
        rw [hck] at HC2
        have HSF := Lib.hid (fun w1 => suffix10_walk s r hsl w1)
        rw [hsuf] at HSF
        clear hkr hp1 hp2 hp3 hkB hkL hkP hkS hkE hkO hmB hsuf hkk hck
        go_wp2_with fail
        refine (HP2.out _ (HK.out _ bk) HKR.out).mono ?_
        rintro e w2 ⟨rfl, d2⟩
        have bm := bk.trans (d2.mono bk.size)
        have hk2 := HKR.out.below d2
        clear d2
        go_wp2_with fail
        refine (HP3.out _ (HK.out _ bm)).mono ?_
        rintro e w3 ⟨mo, mc, rfl, hm3, d3⟩
        have bn := bm.trans (d3.mono bm.size)
        have hk3 := hk2.below d3
        clear d3 hk2 bm bk
        go_wp2_with fail
        refine (HS2.out mo mc _ (HK.out _ bn) hk3 hm3).mono ?_
        rintro e w4 ⟨rfl, d4⟩
        have bo := bn.trans (d4.mono bn.size)
        have hk4 := hk3.below d4
        clear d4 hk3 hm3 bn
        go_wp2_with fail
        refine (HSF.out _).mono ?_
        rintro e w5 ⟨rfl, rfl⟩
        go_wp2_with fail
        refine (HC2.out _ (HK.out _ bo) hk4).mono ?_
        rintro e w6 ⟨rfl, d6⟩
        have bp := bo.trans (d6.mono bo.size)
        clear d6 hk4 bo
        go_wp2
        go_ret
        exact ⟨rfl, bp⟩
    · rw [hp0] at HPR
      clear hp0 hR
      go_enter Tryd.func5, Tryd.ntmps5
      go_wp2_with fail
      refine HW.out.mono ?_
      rintro e w1 ⟨rfl, b1⟩
      go_wp2_with fail
      refine (HSM.out _ (HR.out _ b1)).mono ?_
      rintro e w2 ⟨rfl, m2, rfl⟩
      have b2 := bdr b1 m2
      clear b1
      generalize w1.drewN m2 = w2 at *
      go_wp2_with fail
      refine (HPX.out _).mono ?_
      rintro e w3 ⟨rfl, rfl⟩
      go_wp2_with fail
      refine (HPR.out _ (HK.out _ b2) (HR.out _ b2)).mono ?_
      rintro e w4 ⟨rfl, d4⟩
      have b4 := b2.trans (d4.mono b2.size)
      clear d4 b2
      go_wp2_with fail
      refine (HPS.out _ (HK.out _ b4)).mono ?_
      rintro e wk ⟨ko, kc, rfl, hkr, dk⟩
      have bk := b4.trans (dk.mono b4.size)
      clear dk
      rcases hcase with ⟨hp1, hp2, hp3⟩ | ⟨k, r, hp1, hp2, hp3, hkB, hkL, hkP, hkS, hkE, hkO, hmB, hsuf⟩
      · rw [hp1, hp2, hp3] at *
        clear hkr
        go_wp2
        go_ret
        exact ⟨rfl, bk⟩
      · rw [hp1] at hkr
        rw [hp1, hp2, hp3]
        have HKR := Lib.hid hkr
        have HP2 := Lib.hid (fun w1 (h : I w1) (h2 : RdE w1 ko k) => KPr k ko kc w1 hkB hkL hkP h h2)
        rw [hkS, hkE] at HP2
        have HP3 := Lib.hid (fun w1 (h : I w1) => KP (put k) w1 hmB h)
        unfold PaQ at HP3
        rw [(pa_of hkO).1, (pa_of hkO).2.1, (pa_of hkO).2.2] at HP3
        have HS2 := Lib.hid (fun mo mc w1 (h : I w1) (h1 : RdE w1 ko k) (h2 : RdE w1 mo k) => KS k k ko mo kc mc w1 hkB hkB h h1 h2)
        have hkk : saE k k = true := saE_yes rfl
        rw [hkk] at HS2
        have HC2 := Lib.hid (fun w1 (h : I w1) (h2 : RdE w1 ko k) => KC k ko kc w1 hkB hkL h h2)
        have hck : ckE k = 0 := ckE_yes (okL_of_pr hkE)
        rw [hck] at HC2
        have HSF := Lib.hid (fun w1 => suffix10_walk s r hsl w1)
        rw [hsuf] at HSF
        clear hkr hp1 hp2 hp3 hkB hkL hkP hkS hkE hkO hmB hsuf hkk hck
        go_wp2_with fail
        refine (HP2.out _ (HK.out _ bk) HKR.out).mono ?_
        rintro e w2 ⟨rfl, d2⟩
        have bm := bk.trans (d2.mono bk.size)
        have hk2 := HKR.out.below d2
        clear d2
        go_wp2_with fail
        refine (HP3.out _ (HK.out _ bm)).mono ?_
        rintro e w3 ⟨mo, mc, rfl, hm3, d3⟩
        have bn := bm.trans (d3.mono bm.size)
        have hk3 := hk2.below d3
        clear d3 hk2 bm bk
        go_wp2_with fail
        refine (HS2.out mo mc _ (HK.out _ bn) hk3 hm3).mono ?_
        rintro e w4 ⟨rfl, d4⟩
        have bo := bn.trans (d4.mono bn.size)
        have hk4 := hk3.below d4
        clear d4 hk3 hm3 bn
        go_wp2_with fail
        refine (HSF.out _).mono ?_
        rintro e w5 ⟨rfl, rfl⟩
        go_wp2_with fail
        refine (HC2.out _ (HK.out _ bo) hk4).mono ?_
        rintro e w6 ⟨rfl, d6⟩
        have bp := bo.trans (d6.mono bo.size)
        clear d6 hk4 bo
        go_wp2
        go_ret
        exact ⟨rfl, bp⟩
  · rw [hpx] at HPX
    have hR : ∀ t, (32 :: rest : List UInt8) ≠ 91 :: t := fun t e => by injection e with e _; cases e
    clear hpx
    rcases hpl0 with hp0 | hp0 | hp0
    · obtain ⟨ho, hp6, hp7⟩ := pr_zero hp0
      rw [hp0, hp7] at HPR
      have hpa := pa_put ho hR
      have HPL := Lib.hid hp6
      have HPA := Lib.hid (fun w1 (h : I w1) => KP (put l ++ 32 :: rest) w1 (by rw [List.length_append, List.length_cons]; omega) h)
      unfold PaQ at HPA
      rw [(pa_of hpa).1, (pa_of hpa).2.1, (pa_of hpa).2.2] at HPA
      have HSL := Lib.hid (fun qo qc w1 (h : I w1) (h1 : RdE w1 qo l) (h2 : RdE w1 ao l) => KS l l qo ao qc cap w1 hB hB h h1 h2)
      have hll : saE l l = true := saE_yes rfl
      rw [hll] at HSL
      clear hpa ho hp6 hp7 hp0 hll hR
      go_enter Tryd.func5, Tryd.ntmps5
      go_wp2_with fail
      refine HW.out.mono ?_
      rintro e w1 ⟨rfl, b1⟩
      go_wp2_with fail
      refine (HSM.out _ (HR.out _ b1)).mono ?_
      rintro e w2 ⟨rfl, m2, rfl⟩
      have b2 := bdr b1 m2
      clear b1
      generalize w1.drewN m2 = w2 at *
      go_wp2_with fail
      refine (HPX.out _).mono ?_
      rintro e w3 ⟨rfl, rfl⟩
      have hlx : ({ data := #[32] } : ByteArray) ++ bs rest = bs (32 :: rest) := bs_append [32] rest
      go_wp2_with fail
      refine (HPR.out _ (HK.out _ b2) (HR.out _ b2)).mono ?_
      rintro e w4 ⟨rfl, d4⟩
      have b4 := b2.trans (d4.mono b2.size)
      clear d4 b2
      have hpl : (put l).length ≤ 65536 := HPL.out
      go_wp2_with fail
      refine (HPA.out _ (HK.out _ b4)).mono ?_
      rintro e w5 ⟨qo, qc, rfl, hq5, d5⟩
      have b5 := b4.trans (d5.mono b4.size)
      clear d5 b4
      go_wp2_with fail
      refine (HSL.out qo qc _ (HK.out _ b5) hq5 (HR.out _ b5)).mono ?_
      rintro e w6 ⟨rfl, d6⟩
      have b6 := b5.trans (d6.mono b5.size)
      clear d6 b5 hq5
      go_wp2_with fail
      refine (HPS.out _ (HK.out _ b6)).mono ?_
      rintro e wk ⟨ko, kc, rfl, hkr, dk⟩
      have bk := b6.trans (dk.mono b6.size)
      clear dk
      rcases hcase with ⟨hp1, hp2, hp3⟩ | ⟨k, r, hp1, hp2, hp3, hkB, hkL, hkP, hkS, hkE, hkO, hmB, hsuf⟩
      · rw [hp1, hp2, hp3] at *
        clear hkr
        go_wp2
        go_ret
        exact ⟨rfl, bk⟩
      · rw [hp1] at hkr
        rw [hp1, hp2, hp3]
        have HKR := Lib.hid hkr
        have HP2 := Lib.hid (fun w1 (h : I w1) (h2 : RdE w1 ko k) => KPr k ko kc w1 hkB hkL hkP h h2)
        rw [hkS, hkE] at HP2
        have HP3 := Lib.hid (fun w1 (h : I w1) => KP (put k) w1 hmB h)
        unfold PaQ at HP3
        rw [(pa_of hkO).1, (pa_of hkO).2.1, (pa_of hkO).2.2] at HP3
        have HS2 := Lib.hid (fun mo mc w1 (h : I w1) (h1 : RdE w1 ko k) (h2 : RdE w1 mo k) => KS k k ko mo kc mc w1 hkB hkB h h1 h2)
        have hkk : saE k k = true := saE_yes rfl
        rw [hkk] at HS2
        have HC2 := Lib.hid (fun w1 (h : I w1) (h2 : RdE w1 ko k) => KC k ko kc w1 hkB hkL h h2)
        have hck : ckE k = 0 := ckE_yes (okL_of_pr hkE)
        rw [hck] at HC2
        have HSF := Lib.hid (fun w1 => suffix10_walk s r hsl w1)
        rw [hsuf] at HSF
        clear hkr hp1 hp2 hp3 hkB hkL hkP hkS hkE hkO hmB hsuf hkk hck
        go_wp2_with fail
        refine (HP2.out _ (HK.out _ bk) HKR.out).mono ?_
        rintro e w2 ⟨rfl, d2⟩
        have bm := bk.trans (d2.mono bk.size)
        have hk2 := HKR.out.below d2
        clear d2
        go_wp2_with fail
        refine (HP3.out _ (HK.out _ bm)).mono ?_
        rintro e w3 ⟨mo, mc, rfl, hm3, d3⟩
        have bn := bm.trans (d3.mono bm.size)
        have hk3 := hk2.below d3
        clear d3 hk2 bm bk
        go_wp2_with fail
        refine (HS2.out mo mc _ (HK.out _ bn) hk3 hm3).mono ?_
        rintro e w4 ⟨rfl, d4⟩
        have bo := bn.trans (d4.mono bn.size)
        have hk4 := hk3.below d4
        clear d4 hk3 hm3 bn
        go_wp2_with fail
        refine (HSF.out _).mono ?_
        rintro e w5 ⟨rfl, rfl⟩
        go_wp2_with fail
        refine (HC2.out _ (HK.out _ bo) hk4).mono ?_
        rintro e w6 ⟨rfl, d6⟩
        have bp := bo.trans (d6.mono bo.size)
        clear d6 hk4 bo
        go_wp2
        go_ret
        exact ⟨rfl, bp⟩
    · rw [hp0] at HPR
      clear hp0 hR
      go_enter Tryd.func5, Tryd.ntmps5
      go_wp2_with fail
      refine HW.out.mono ?_
      rintro e w1 ⟨rfl, b1⟩
      go_wp2_with fail
      refine (HSM.out _ (HR.out _ b1)).mono ?_
      rintro e w2 ⟨rfl, m2, rfl⟩
      have b2 := bdr b1 m2
      clear b1
      generalize w1.drewN m2 = w2 at *
      go_wp2_with fail
      refine (HPX.out _).mono ?_
      rintro e w3 ⟨rfl, rfl⟩
      have hlx : ({ data := #[32] } : ByteArray) ++ bs rest = bs (32 :: rest) := bs_append [32] rest
      go_wp2_with fail
      refine (HPR.out _ (HK.out _ b2) (HR.out _ b2)).mono ?_
      rintro e w4 ⟨rfl, d4⟩
      have b4 := b2.trans (d4.mono b2.size)
      clear d4 b2
      go_wp2_with fail
      refine (HPS.out _ (HK.out _ b4)).mono ?_
      rintro e wk ⟨ko, kc, rfl, hkr, dk⟩
      have bk := b4.trans (dk.mono b4.size)
      clear dk
      rcases hcase with ⟨hp1, hp2, hp3⟩ | ⟨k, r, hp1, hp2, hp3, hkB, hkL, hkP, hkS, hkE, hkO, hmB, hsuf⟩
      · rw [hp1, hp2, hp3] at *
        clear hkr
        go_wp2
        go_ret
        exact ⟨rfl, bk⟩
      · rw [hp1] at hkr
        rw [hp1, hp2, hp3]
        have HKR := Lib.hid hkr
        have HP2 := Lib.hid (fun w1 (h : I w1) (h2 : RdE w1 ko k) => KPr k ko kc w1 hkB hkL hkP h h2)
        rw [hkS, hkE] at HP2
        have HP3 := Lib.hid (fun w1 (h : I w1) => KP (put k) w1 hmB h)
        unfold PaQ at HP3
        rw [(pa_of hkO).1, (pa_of hkO).2.1, (pa_of hkO).2.2] at HP3
        have HS2 := Lib.hid (fun mo mc w1 (h : I w1) (h1 : RdE w1 ko k) (h2 : RdE w1 mo k) => KS k k ko mo kc mc w1 hkB hkB h h1 h2)
        have hkk : saE k k = true := saE_yes rfl
        rw [hkk] at HS2
        have HC2 := Lib.hid (fun w1 (h : I w1) (h2 : RdE w1 ko k) => KC k ko kc w1 hkB hkL h h2)
        have hck : ckE k = 0 := ckE_yes (okL_of_pr hkE)
        rw [hck] at HC2
        have HSF := Lib.hid (fun w1 => suffix10_walk s r hsl w1)
        rw [hsuf] at HSF
        clear hkr hp1 hp2 hp3 hkB hkL hkP hkS hkE hkO hmB hsuf hkk hck
        go_wp2_with fail
        refine (HP2.out _ (HK.out _ bk) HKR.out).mono ?_
        rintro e w2 ⟨rfl, d2⟩
        have bm := bk.trans (d2.mono bk.size)
        have hk2 := HKR.out.below d2
        clear d2
        go_wp2_with fail
        refine (HP3.out _ (HK.out _ bm)).mono ?_
        rintro e w3 ⟨mo, mc, rfl, hm3, d3⟩
        have bn := bm.trans (d3.mono bm.size)
        have hk3 := hk2.below d3
        clear d3 hk2 bm bk
        go_wp2_with fail
        refine (HS2.out mo mc _ (HK.out _ bn) hk3 hm3).mono ?_
        rintro e w4 ⟨rfl, d4⟩
        have bo := bn.trans (d4.mono bn.size)
        have hk4 := hk3.below d4
        clear d4 hk3 hm3 bn
        go_wp2_with fail
        refine (HSF.out _).mono ?_
        rintro e w5 ⟨rfl, rfl⟩
        go_wp2_with fail
        refine (HC2.out _ (HK.out _ bo) hk4).mono ?_
        rintro e w6 ⟨rfl, d6⟩
        have bp := bo.trans (d6.mono bo.size)
        clear d6 hk4 bo
        go_wp2
        go_ret
        exact ⟨rfl, bp⟩
    · rw [hp0] at HPR
      clear hp0 hR
      go_enter Tryd.func5, Tryd.ntmps5
      go_wp2_with fail
      refine HW.out.mono ?_
      rintro e w1 ⟨rfl, b1⟩
      go_wp2_with fail
      refine (HSM.out _ (HR.out _ b1)).mono ?_
      rintro e w2 ⟨rfl, m2, rfl⟩
      have b2 := bdr b1 m2
      clear b1
      generalize w1.drewN m2 = w2 at *
      go_wp2_with fail
      refine (HPX.out _).mono ?_
      rintro e w3 ⟨rfl, rfl⟩
      have hlx : ({ data := #[32] } : ByteArray) ++ bs rest = bs (32 :: rest) := bs_append [32] rest
      go_wp2_with fail
      refine (HPR.out _ (HK.out _ b2) (HR.out _ b2)).mono ?_
      rintro e w4 ⟨rfl, d4⟩
      have b4 := b2.trans (d4.mono b2.size)
      clear d4 b2
      go_wp2_with fail
      refine (HPS.out _ (HK.out _ b4)).mono ?_
      rintro e wk ⟨ko, kc, rfl, hkr, dk⟩
      have bk := b4.trans (dk.mono b4.size)
      clear dk
      rcases hcase with ⟨hp1, hp2, hp3⟩ | ⟨k, r, hp1, hp2, hp3, hkB, hkL, hkP, hkS, hkE, hkO, hmB, hsuf⟩
      · rw [hp1, hp2, hp3] at *
        clear hkr
        go_wp2
        go_ret
        exact ⟨rfl, bk⟩
      · rw [hp1] at hkr
        rw [hp1, hp2, hp3]
        have HKR := Lib.hid hkr
        have HP2 := Lib.hid (fun w1 (h : I w1) (h2 : RdE w1 ko k) => KPr k ko kc w1 hkB hkL hkP h h2)
        rw [hkS, hkE] at HP2
        have HP3 := Lib.hid (fun w1 (h : I w1) => KP (put k) w1 hmB h)
        unfold PaQ at HP3
        rw [(pa_of hkO).1, (pa_of hkO).2.1, (pa_of hkO).2.2] at HP3
        have HS2 := Lib.hid (fun mo mc w1 (h : I w1) (h1 : RdE w1 ko k) (h2 : RdE w1 mo k) => KS k k ko mo kc mc w1 hkB hkB h h1 h2)
        have hkk : saE k k = true := saE_yes rfl
        rw [hkk] at HS2
        have HC2 := Lib.hid (fun w1 (h : I w1) (h2 : RdE w1 ko k) => KC k ko kc w1 hkB hkL h h2)
        have hck : ckE k = 0 := ckE_yes (okL_of_pr hkE)
        rw [hck] at HC2
        have HSF := Lib.hid (fun w1 => suffix10_walk s r hsl w1)
        rw [hsuf] at HSF
        clear hkr hp1 hp2 hp3 hkB hkL hkP hkS hkE hkO hmB hsuf hkk hck
        go_wp2_with fail
        refine (HP2.out _ (HK.out _ bk) HKR.out).mono ?_
        rintro e w2 ⟨rfl, d2⟩
        have bm := bk.trans (d2.mono bk.size)
        have hk2 := HKR.out.below d2
        clear d2
        go_wp2_with fail
        refine (HP3.out _ (HK.out _ bm)).mono ?_
        rintro e w3 ⟨mo, mc, rfl, hm3, d3⟩
        have bn := bm.trans (d3.mono bm.size)
        have hk3 := hk2.below d3
        clear d3 hk2 bm bk
        go_wp2_with fail
        refine (HS2.out mo mc _ (HK.out _ bn) hk3 hm3).mono ?_
        rintro e w4 ⟨rfl, d4⟩
        have bo := bn.trans (d4.mono bn.size)
        have hk4 := hk3.below d4
        clear d4 hk3 hm3 bn
        go_wp2_with fail
        refine (HSF.out _).mono ?_
        rintro e w5 ⟨rfl, rfl⟩
        go_wp2_with fail
        refine (HC2.out _ (HK.out _ bo) hk4).mono ?_
        rintro e w6 ⟨rfl, d6⟩
        have bp := bo.trans (d6.mono bo.size)
        clear d6 hk4 bo
        go_wp2
        go_ret
        exact ⟨rfl, bp⟩
end Go.Proofs.YtkpcfbadhoiigaaDoor
