/- The document's set, walked: written by gen_globd.py. -/
import Derived.Test.YtmhmipbbbccfgaaGlbD
namespace Go.Proofs.Ytmhmipbbbccfgaa
open Go.ChangeShapes Go.WideShapes Go.ChangeAt Go.RowKit K G13
set_option linter.unusedVariables false
set_option maxRecDepth 100000 in
set_option maxHeartbeats 4000000 in
theorem qset_is (c0 : UInt8) (t0 : List UInt8) (hc0 : c0 ≠ 33) (hs : (c0 :: t0).length ≤ 1000) (w : World) :
    Calls Try.prog 22 #[.string (bs (c0 :: t0))] w fun e w' => SetPost (stF false (c0 :: t0)) w e w' := by
  have hne : (c0 :: t0).isEmpty = false := rfl
  have q0 : (((byt (c0 :: t0) 0 : Nat) : Int) == 33) = false := by
    rw [beq_eq_false_iff_ne]; intro h; exact hc0 (UInt8.toNat_inj.1 (show c0.toNat = 33 by have : byt (c0 :: t0) 0 = c0.toNat := rfl; omega))
  have hl0 : (0 : Nat) < (c0 :: t0).length := by simp
  have z2 := zt2
  rw [tabB_zero] at z2
  have HS0 := Lib.hid (SeW.new w)
  generalize hu : c0 :: t0 = u at *
  clear hu hc0
  go_enter Try.func22, Try.ntmps22
  go_wp2_with fail
  go_loopg [0, 7] u.length (fun g v0 v7 wr => SeRel u w g v0 v7 wr)
  case atStart => exact ⟨u, [], Nat.le_refl _, by simp, rfl, rfl, by simp, HS0.out⟩
  case round =>
    obtain ⟨sr, xs, hg, hxl, rfl, rfl, hR, hS⟩ := hrel
    clear HS0 z2 hne q0 hl0
    cases sr with
    | nil =>
      have HN := Lib.hid (show stF false u = none by unfold stF; rw [hR]; rfl)
      clear hR hg
      have hne : ([] : List UInt8).isEmpty = true := rfl
      have HST := Lib.hid (hS.r0.store (inN xs))
      have HR1 := Lib.hid hS.r1
      have HR0 := Lib.hid hS.r0
      have HBB := Lib.hid hS.b
      clear hS
      go_wp2_with fail
      refine wp_load_row 55 _ rfl (w.heap.size + 1) rfl 55 (tabB (inN xs)) (0, 0) _ HR1.out Try.underlying55 rfl (by rw [sz2, tabB_size]) ?_
      have hst := HST.out
      have hts := tabB_size (inN xs)
      go_wp2_with fail
      refine bodyPost_ret (gres_row3 rfl _ _ w.heap.size _ _ _ _ rfl (setRow_heap _ _ _ _ _ _ HR0.out) Try.underlying55 rfl (by rw [sz2, tabB_size])) rfl ?_
      rw [HN.out]
      exact ⟨below_setRow HBB.out (Nat.le_refl _) _, _, rfl⟩
    | cons c t =>
      have hne : (c :: t).isEmpty = false := rfl
      have hl0 : (0 : Nat) < (c :: t).length := by simp
      by_cases hc : c = 93
      · subst hc
        have hb : (((byt (93 :: t) 0 : Nat) : Int) != 93) = false := rfl
        have hb2 : byt (93 :: t) 0 = 93 := rfl
        cases xs with
        | nil =>
          have HN := Lib.hid (show stF false u = none by unfold stF; rw [hR]; rfl)
          clear hR hg
          generalize 93 :: t = s1 at *
          have HST := Lib.hid (hS.r0.store (inN []))
          have HR1 := Lib.hid hS.r1
          have HR0 := Lib.hid hS.r0
          have HBB := Lib.hid hS.b
          clear hS
          go_wp2_with fail
          refine wp_load_row 55 _ rfl (w.heap.size + 1) rfl 55 (tabB (inN [])) (0, 0) _ HR1.out Try.underlying55 rfl (by rw [sz2, tabB_size]) ?_
          have hst := HST.out
          have hts := tabB_size (inN [])
          go_wp2_with fail
          refine bodyPost_ret (gres_row3 rfl _ _ w.heap.size _ _ _ _ rfl (setRow_heap _ _ _ _ _ _ HR0.out) Try.underlying55 rfl (by rw [sz2, tabB_size])) rfl ?_
          rw [HN.out]
          exact ⟨below_setRow HBB.out (Nat.le_refl _) _, _, rfl⟩
        | cons x xs =>
          have HN := Lib.hid (show stF false u = some ((fun b => inR (x :: xs) b), t) by unfold stF; rw [hR]; simp [RG_end])
          have HT := Lib.hid (show (93 :: t).tail = t from rfl)
          clear hR hg
          have hm : ((((x :: xs).length : Nat) : Int) == 0) = false := by rw [beq_eq_false_iff_ne]; simp only [List.length_cons]; omega
          have hl1 : 1 ≤ (93 :: t).length := by simp
          generalize 93 :: t = s1 at *
          generalize x :: xs = xl at *
          have HG := Lib.hid (show tabB (inN xl) = tabB (fun i => (fun b => inR xl b) (UInt8.ofNat i)) from tabB_congr fun i hi => (inN_inR xl hi).symm)
          have HS9 := Lib.hid hS
          clear hS
          go_wp2_with fail
          go_loopg [13] 0 (fun g v13 wx => v13 = .int .i64 0 ∧ wx = wr)
          case atStart => exact ⟨rfl, rfl⟩
          case round =>
            obtain ⟨rfl, rfl⟩ := hrel
            have hS := HS9.out
            clear HS9
            have HSE := Lib.hid hS
            clear hS
            go_wp2_with fail
            refine wp_region_any (by kernel_rfl) ?_
            change wpAny _ _ _ _ _ _ _ (World.drew _)
            have HSD := Lib.hid HSE.out.drew1
            clear HSE
            generalize World.drew _ = w5 at *
            have HST := Lib.hid (HSD.out.r0.store (inN xl))
            refine wpAny_take (i := 1) (v := .string (bs s1)) rfl (by kernel_rfl) (by kernel_rfl) (by kernel_rfl) (fun _ _ _ h => h) (Or.inl ⟨by rfl, ?_⟩) ?_
            · intro w9
              go_simp
            refine wpAny_take (i := 2) (v := .string (bs s1.tail)) rfl (by kernel_rfl) (by kernel_rfl) (by kernel_rfl) (fun _ _ _ h => h) (Or.inl ⟨by rfl, ?_⟩) ?_
            · intro w9
              go_simp
              intro hx
              exact absurd hx (by omega)
            refine wpAny_ready (rs := [0]) (by kernel_rfl) (by simp) (AllReady.cons rfl (fun K hK => ?_) AllReady.nil)
            refine wp_load_row 55 _ rfl (w.heap.size + 1) rfl 55 (tabB (inN xl)) (0, 0) _ HSD.out.r1 Try.underlying55 rfl (by rw [sz2, tabB_size]) ?_
            refine hK _ _ ?_
            clear hK K
            have hst := HST.out
            have hts := tabB_size (inN xl)
            refine wpAny_ready (rs := [3]) (by kernel_rfl) (by simp) (AllReady.cons rfl (fun K hK => ?_) AllReady.nil)
            go_simp
            refine hK _ _ ?_
            clear hK K hst hts
            refine wpAny_ready (rs := [4]) (by kernel_rfl) (by simp) (AllReady.cons rfl (fun K hK => ?_) AllReady.nil)
            go_simp
            refine hK _ _ ?_
            clear hK K
            refine wpAny_ready (rs := [5]) (by kernel_rfl) (by simp) (AllReady.cons rfl (fun K hK => ?_) AllReady.nil)
            go_simp
            refine hK _ _ ?_
            clear hK K
            refine wpAny_done (by kernel_rfl) ?_ _
            go_wp2_with fail
            refine bodyPost_ret (gres_row3 rfl _ _ w.heap.size _ _ _ _ rfl (setRow_heap _ _ _ _ _ _ HSD.out.r0) Try.underlying55 rfl (by rw [sz2, tabB_size])) rfl ?_
            rw [HN.out]
            refine ⟨below_setRow HSD.out.b (Nat.le_refl _) _, ?_⟩
            rw [← HT.out, HG.out]
            exact rfl
      · obtain ⟨g, rfl⟩ : ∃ g, gk = g + 1 := ⟨gk - 1, by simp only [List.length_cons] at hg; omega⟩
        have hb : (((byt (c :: t) 0 : Nat) : Int) != 93) = true := by
          rw [bne_iff_ne]; intro h; exact hc (UInt8.toNat_inj.1 (show c.toNat = 93 by have : byt (c :: t) 0 = c.toNat := rfl; omega))
        have HR := Lib.hid hR
        have HM := Lib.hid (fun wx => qmember_walk (c :: t) (by omega) wx)
        have HSS := Lib.hid hS
        clear hR hS
        cases h : mem13 (c :: t) with
        | none =>
          have hv : mbV (c :: t) = .tuple #[.int .u8 0, .string (bs []), .bool false] := by simp only [mbV, h]
          have HN := Lib.hid (show stF false u = none by unfold stF; rw [HR.out, RG_no hc (by simp only [rng, h])]; rfl)
          rw [hv] at HM
          clear hv h hc
          generalize c :: t = s1 at *
          go_wp2_with fail
          refine (HM.out _).mono ?_
          rintro e _ ⟨rfl, n1, rfl⟩
          have hS := HSS.out.drew n1
          clear HSS
          generalize wr.drewN n1 = wr at *
          have HST := Lib.hid (hS.r0.store (inN xs))
          have HR1 := Lib.hid hS.r1
          have HR0 := Lib.hid hS.r0
          have HBB := Lib.hid hS.b
          clear hS
          go_wp2_with fail
          refine wp_load_row 55 _ rfl (w.heap.size + 1) rfl 55 (tabB (inN xs)) (0, 0) _ HR1.out Try.underlying55 rfl (by rw [sz2, tabB_size]) ?_
          have hst := HST.out
          have hts := tabB_size (inN xs)
          go_wp2_with fail
          refine bodyPost_ret (gres_row3 rfl _ _ w.heap.size _ _ _ _ rfl (setRow_heap _ _ _ _ _ _ HR0.out) Try.underlying55 rfl (by rw [sz2, tabB_size])) rfl ?_
          rw [HN.out]
          exact ⟨below_setRow HBB.out (Nat.le_refl _) _, _, rfl⟩
        | some ar =>
          obtain ⟨a, r⟩ := ar
          have hv : mbV (c :: t) = .tuple #[.int .u8 (a.toNat : Nat), .string (bs r), .bool true] := by simp only [mbV, h]
          rw [hv] at HM
          have HL := Lib.hid (mem_len h)
          cases r with
          | nil =>
            have HG1 := Lib.hid (show rng (c :: t) = some ((a, a), []) by simp only [rng, h])
            have HAB := Lib.hid (Nat.le_refl a.toNat)
            clear hv h
            have hcf := hc
            have HC := Lib.hid hcf
            clear hcf
            have hne2 : ([] : List UInt8).isEmpty = true := rfl
            have HGEN := Lib.hid (rfl : c :: t = c :: t)
            go_wp2_with fail
            refine (HM.out _).mono ?_
            rintro e _ ⟨rfl, n1, rfl⟩
            have hSS := HSS.out.drew n1
            clear HSS
            have HSS := Lib.hid hSS
            clear hSS
            generalize wr.drewN n1 = wr at *
            have hql : ([] : List UInt8).length < (c :: t).length := rng_len HG1.out
            have HRR := Lib.hid (show RG u = ((RG ([] : List UInt8)).map fun y => ((xs ++ [(a, a)]) ++ y.1, y.2)) by
              rw [HR.out, RG_yes hc HG1.out, Option.map_map]; congr 1; funext y; simp)
            have ha8 := a.toNat_lt
            have hb8 := a.toNat_lt
            have hab : a.toNat ≤ a.toNat := HAB.out
            go_wp2_with fail
            go_loopg [12] (a.toNat + 1 - a.toNat) (fun g v12 wx => SiRel xs a.toNat a.toNat w g v12 wx)
            case atStart => exact ⟨a.toNat, by omega, Nat.le_refl _, rfl, HSS.out.congr fun i hi => by
              rw [show (decide (a.toNat ≤ i) && decide (i < a.toNat)) = false by
                rw [Bool.and_eq_false_iff, decide_eq_false_iff_not, decide_eq_false_iff_not]; omega, Bool.or_false]⟩
            case round =>
              clear HSS
              obtain ⟨k, hk, hka, rfl, hS⟩ := hrel
              by_cases hkb : a.toNat < k
              · obtain rfl : k = a.toNat + 1 := by omega
                have HS3 := Lib.hid (hS.congr (k := inN (xs ++ [(a, a)])) fun i hi => by
                  rw [inN_snoc]; congr 2; rw [decide_eq_decide]; omega)
                clear hS
                have hw1 : ¬ (((a.toNat + 1 : Nat)) : Int) ≤ ((a.toNat : Nat) : Int) := by omega
                have hxs : xs.length ≤ 1000 := by omega
                have hm1 : IntKind.i64.wrap (((xs.length : Nat) : Int) + 1) = ((xs.length + 1 : Nat) : Int) := by rw [IntWalk.i64_in _ (by omega)]; omega
                go_wp2
                go_roundg g
                case measure => simp only [List.length_cons] at hql ⊢; omega
                case rel => exact ⟨([] : List UInt8), xs ++ [(a, a)], by simp only [List.length_cons] at hg hql ⊢; omega, by simp only [List.length_cons, List.length_append, List.length_nil] at hxl hql ⊢; omega, rfl, by simp, HRR.out, HS3.out⟩
              · have hk2 : k < 256 := by omega
                have hk3 : ((k : Nat) : Int) ≤ ((a.toNat : Nat) : Int) := by omega
                have hcell := hS.r1.cell hk2
                have hfree := hS.r1.free k
                have HS2 := Lib.hid ((hS.set k true).congr (k := fun i => inN xs i || (decide (a.toNat ≤ i) && decide (i < k + 1))) fun i hi => by
                  by_cases h1 : i = k
                  · subst h1
                    rw [if_pos rfl, decide_eq_true hka, decide_eq_true (by omega : i < i + 1)]; simp
                  · rw [if_neg h1]; congr 2; rw [decide_eq_decide]; omega)
                clear hS
                obtain ⟨g2, rfl⟩ : ∃ g2, gk = g2 + 1 := ⟨gk - 1, by omega⟩
                go_wp2
                go_roundg g2
                case measure => omega
                case rel => exact ⟨k + 1, by omega, by omega, by simp, HS2.out⟩
          | cons d r' =>
            by_cases hd : d = 45
            · subst hd
              have HM2 := Lib.hid (fun wx => qmember_walk r' (by have := HL.out; simp only [List.length_cons] at this hxl; omega) wx)
              have hq3 : (((byt (45 :: r') 0 : Nat) : Int) == 45) = true := rfl
              have hq4 : byt (45 :: r') 0 = 45 := rfl
              have hl3 : (0 : Nat) < (45 :: r').length := by simp
              have hl4 : (1 : Nat) ≤ (45 :: r').length := by simp
              have hne4 : (45 :: r').isEmpty = false := rfl
              have htl4 : (45 :: r').tail = r' := rfl
              cases h2 : mem13 r' with
              | none =>
                have hv2 : mbV r' = .tuple #[.int .u8 0, .string (bs []), .bool false] := by simp only [mbV, h2]
                have HN := Lib.hid (show stF false u = none by unfold stF; rw [HR.out, RG_no hc (by simp only [rng, h, if_true, h2])]; rfl)
                rw [hv2] at HM2
                clear hv hv2 h h2 hc
                generalize c :: t = s1 at *
                generalize 45 :: r' = r1 at *
                go_wp2_with fail
                refine (HM.out _).mono ?_
                rintro e _ ⟨rfl, n1, rfl⟩
                have hS := HSS.out.drew n1
                clear HSS
                generalize wr.drewN n1 = wr at *
                have HSS := Lib.hid hS
                clear hS
                go_wp2_with fail
                refine (HM2.out _).mono ?_
                rintro e _ ⟨rfl, n2, rfl⟩
                have hS := HSS.out.drew n2
                clear HSS
                generalize wr.drewN n2 = wr at *
                have HST := Lib.hid (hS.r0.store (inN xs))
                have HR1 := Lib.hid hS.r1
                have HR0 := Lib.hid hS.r0
                have HBB := Lib.hid hS.b
                clear hS
                go_wp2_with fail
                refine wp_load_row 55 _ rfl (w.heap.size + 1) rfl 55 (tabB (inN xs)) (0, 0) _ HR1.out Try.underlying55 rfl (by rw [sz2, tabB_size]) ?_
                have hst := HST.out
                have hts := tabB_size (inN xs)
                go_wp2_with fail
                refine bodyPost_ret (gres_row3 rfl _ _ w.heap.size _ _ _ _ rfl (setRow_heap _ _ _ _ _ _ HR0.out) Try.underlying55 rfl (by rw [sz2, tabB_size])) rfl ?_
                rw [HN.out]
                exact ⟨below_setRow HBB.out (Nat.le_refl _) _, _, rfl⟩
              | some bq =>
                obtain ⟨b, q⟩ := bq
                have hv2 : mbV r' = .tuple #[.int .u8 (b.toNat : Nat), .string (bs q), .bool true] := by simp only [mbV, h2]
                rw [hv2] at HM2
                by_cases hab : a ≤ b
                · have HG1 := Lib.hid (show rng (c :: t) = some ((a, b), q) by simp only [rng, h, if_true, h2, if_pos hab])
                  have hab0 := UInt8.le_iff_toNat_le.1 hab
                  have hab1 : ¬ ((b.toNat : Nat) : Int) < ((a.toNat : Nat) : Int) := by omega
                  have HAB := Lib.hid hab0
                  clear hv hv2 h h2 hab hab0
                  generalize 45 :: r' = r1 at *
                  go_wp2_with fail
                  refine (HM.out _).mono ?_
                  rintro e _ ⟨rfl, n1, rfl⟩
                  have hSS := HSS.out.drew n1
                  clear HSS
                  have HSS := Lib.hid hSS
                  clear hSS
                  generalize wr.drewN n1 = wr at *
                  go_wp2_with fail
                  refine (HM2.out _).mono ?_
                  rintro e _ ⟨rfl, n2, rfl⟩
                  have hSS := HSS.out.drew n2
                  clear HSS
                  have HSS := Lib.hid hSS
                  clear hSS
                  generalize wr.drewN n2 = wr at *
                  have hql : q.length < (c :: t).length := rng_len HG1.out
                  have HRR := Lib.hid (show RG u = ((RG q).map fun y => ((xs ++ [(a, b)]) ++ y.1, y.2)) by
                    rw [HR.out, RG_yes hc HG1.out, Option.map_map]; congr 1; funext y; simp)
                  have ha8 := a.toNat_lt
                  have hb8 := b.toNat_lt
                  have hab : a.toNat ≤ b.toNat := HAB.out
                  go_wp2_with fail
                  go_loopg [12] (b.toNat + 1 - a.toNat) (fun g v12 wx => SiRel xs a.toNat b.toNat w g v12 wx)
                  case atStart => exact ⟨a.toNat, by omega, Nat.le_refl _, rfl, HSS.out.congr fun i hi => by
                    rw [show (decide (a.toNat ≤ i) && decide (i < a.toNat)) = false by
                      rw [Bool.and_eq_false_iff, decide_eq_false_iff_not, decide_eq_false_iff_not]; omega, Bool.or_false]⟩
                  case round =>
                    clear HSS
                    obtain ⟨k, hk, hka, rfl, hS⟩ := hrel
                    by_cases hkb : b.toNat < k
                    · obtain rfl : k = b.toNat + 1 := by omega
                      have HS3 := Lib.hid (hS.congr (k := inN (xs ++ [(a, b)])) fun i hi => by
                        rw [inN_snoc]; congr 2; rw [decide_eq_decide]; omega)
                      clear hS
                      have hw1 : ¬ (((b.toNat + 1 : Nat)) : Int) ≤ ((b.toNat : Nat) : Int) := by omega
                      have hxs : xs.length ≤ 1000 := by omega
                      have hm1 : IntKind.i64.wrap (((xs.length : Nat) : Int) + 1) = ((xs.length + 1 : Nat) : Int) := by rw [IntWalk.i64_in _ (by omega)]; omega
                      go_wp2
                      go_roundg g
                      case measure => simp only [List.length_cons] at hql ⊢; omega
                      case rel => exact ⟨q, xs ++ [(a, b)], by simp only [List.length_cons] at hg hql ⊢; omega, by simp only [List.length_cons, List.length_append, List.length_nil] at hxl hql ⊢; omega, rfl, by simp, HRR.out, HS3.out⟩
                    · have hk2 : k < 256 := by omega
                      have hk3 : ((k : Nat) : Int) ≤ ((b.toNat : Nat) : Int) := by omega
                      have hcell := hS.r1.cell hk2
                      have hfree := hS.r1.free k
                      have HS2 := Lib.hid ((hS.set k true).congr (k := fun i => inN xs i || (decide (a.toNat ≤ i) && decide (i < k + 1))) fun i hi => by
                        by_cases h1 : i = k
                        · subst h1
                          rw [if_pos rfl, decide_eq_true hka, decide_eq_true (by omega : i < i + 1)]; simp
                        · rw [if_neg h1]; congr 2; rw [decide_eq_decide]; omega)
                      clear hS
                      obtain ⟨g2, rfl⟩ : ∃ g2, gk = g2 + 1 := ⟨gk - 1, by omega⟩
                      go_wp2
                      go_roundg g2
                      case measure => omega
                      case rel => exact ⟨k + 1, by omega, by omega, by simp, HS2.out⟩
                · have hab0 : ¬ a.toNat ≤ b.toNat := fun e => hab (UInt8.le_iff_toNat_le.2 e)
                  have hab1 : ((b.toNat : Nat) : Int) < ((a.toNat : Nat) : Int) := by omega
                  have HN := Lib.hid (show stF false u = none by unfold stF; rw [HR.out, RG_no hc (by simp only [rng, h, if_true, h2, if_neg hab])]; rfl)
                  clear hv hv2 h h2 hab hab0 hc
                  generalize c :: t = s1 at *
                  generalize 45 :: r' = r1 at *
                  go_wp2_with fail
                  refine (HM.out _).mono ?_
                  rintro e _ ⟨rfl, n1, rfl⟩
                  have hS := HSS.out.drew n1
                  clear HSS
                  generalize wr.drewN n1 = wr at *
                  have HSS := Lib.hid hS
                  clear hS
                  go_wp2_with fail
                  refine (HM2.out _).mono ?_
                  rintro e _ ⟨rfl, n2, rfl⟩
                  have hS := HSS.out.drew n2
                  clear HSS
                  generalize wr.drewN n2 = wr at *
                  have HST := Lib.hid (hS.r0.store (inN xs))
                  have HR1 := Lib.hid hS.r1
                  have HR0 := Lib.hid hS.r0
                  have HBB := Lib.hid hS.b
                  clear hS
                  go_wp2_with fail
                  refine wp_load_row 55 _ rfl (w.heap.size + 1) rfl 55 (tabB (inN xs)) (0, 0) _ HR1.out Try.underlying55 rfl (by rw [sz2, tabB_size]) ?_
                  have hst := HST.out
                  have hts := tabB_size (inN xs)
                  go_wp2_with fail
                  refine bodyPost_ret (gres_row3 rfl _ _ w.heap.size _ _ _ _ rfl (setRow_heap _ _ _ _ _ _ HR0.out) Try.underlying55 rfl (by rw [sz2, tabB_size])) rfl ?_
                  rw [HN.out]
                  exact ⟨below_setRow HBB.out (Nat.le_refl _) _, _, rfl⟩
            · have HG1 := Lib.hid (show rng (c :: t) = some ((a, a), d :: r') by simp only [rng, h, if_neg hd])
              have HAB := Lib.hid (Nat.le_refl a.toNat)
              have hq3 : (((byt (d :: r') 0 : Nat) : Int) == 45) = false := by
                rw [beq_eq_false_iff_ne]; intro hx; exact hd (UInt8.toNat_inj.1 (show d.toNat = 45 by have : byt (d :: r') 0 = d.toNat := rfl; omega))
              have hl3 : (0 : Nat) < (d :: r').length := by simp
              have hne4 : (d :: r').isEmpty = false := rfl
              clear hv h hd
              generalize d :: r' = r1 at *
              go_wp2_with fail
              refine (HM.out _).mono ?_
              rintro e _ ⟨rfl, n1, rfl⟩
              have hSS := HSS.out.drew n1
              clear HSS
              have HSS := Lib.hid hSS
              clear hSS
              generalize wr.drewN n1 = wr at *
              have hql : r1.length < (c :: t).length := rng_len HG1.out
              have HRR := Lib.hid (show RG u = ((RG r1).map fun y => ((xs ++ [(a, a)]) ++ y.1, y.2)) by
                rw [HR.out, RG_yes hc HG1.out, Option.map_map]; congr 1; funext y; simp)
              have ha8 := a.toNat_lt
              have hb8 := a.toNat_lt
              have hab : a.toNat ≤ a.toNat := HAB.out
              go_wp2_with fail
              go_loopg [12] (a.toNat + 1 - a.toNat) (fun g v12 wx => SiRel xs a.toNat a.toNat w g v12 wx)
              case atStart => exact ⟨a.toNat, by omega, Nat.le_refl _, rfl, HSS.out.congr fun i hi => by
                rw [show (decide (a.toNat ≤ i) && decide (i < a.toNat)) = false by
                  rw [Bool.and_eq_false_iff, decide_eq_false_iff_not, decide_eq_false_iff_not]; omega, Bool.or_false]⟩
              case round =>
                clear HSS
                obtain ⟨k, hk, hka, rfl, hS⟩ := hrel
                by_cases hkb : a.toNat < k
                · obtain rfl : k = a.toNat + 1 := by omega
                  have HS3 := Lib.hid (hS.congr (k := inN (xs ++ [(a, a)])) fun i hi => by
                    rw [inN_snoc]; congr 2; rw [decide_eq_decide]; omega)
                  clear hS
                  have hw1 : ¬ (((a.toNat + 1 : Nat)) : Int) ≤ ((a.toNat : Nat) : Int) := by omega
                  have hxs : xs.length ≤ 1000 := by omega
                  have hm1 : IntKind.i64.wrap (((xs.length : Nat) : Int) + 1) = ((xs.length + 1 : Nat) : Int) := by rw [IntWalk.i64_in _ (by omega)]; omega
                  go_wp2
                  go_roundg g
                  case measure => simp only [List.length_cons] at hql ⊢; omega
                  case rel => exact ⟨r1, xs ++ [(a, a)], by simp only [List.length_cons] at hg hql ⊢; omega, by simp only [List.length_cons, List.length_append, List.length_nil] at hxl hql ⊢; omega, rfl, by simp, HRR.out, HS3.out⟩
                · have hk2 : k < 256 := by omega
                  have hk3 : ((k : Nat) : Int) ≤ ((a.toNat : Nat) : Int) := by omega
                  have hcell := hS.r1.cell hk2
                  have hfree := hS.r1.free k
                  have HS2 := Lib.hid ((hS.set k true).congr (k := fun i => inN xs i || (decide (a.toNat ≤ i) && decide (i < k + 1))) fun i hi => by
                    by_cases h1 : i = k
                    · subst h1
                      rw [if_pos rfl, decide_eq_true hka, decide_eq_true (by omega : i < i + 1)]; simp
                    · rw [if_neg h1]; congr 2; rw [decide_eq_decide]; omega)
                  clear hS
                  obtain ⟨g2, rfl⟩ : ∃ g2, gk = g2 + 1 := ⟨gk - 1, by omega⟩
                  go_wp2
                  go_roundg g2
                  case measure => omega
                  case rel => exact ⟨k + 1, by omega, by omega, by simp, HS2.out⟩
end Go.Proofs.Ytmhmipbbbccfgaa
