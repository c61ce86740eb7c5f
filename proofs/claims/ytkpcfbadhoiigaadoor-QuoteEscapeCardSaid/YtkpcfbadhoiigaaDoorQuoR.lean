/- QuoteEscape, on calls that keep their word. -/
import Derived.Test.YtkpcfbadhoiigaaDoorQuoS
import Derived.Test.YtkpcfbadhoiigaaDoorUtfC
import Derived.Test.YtkpcfbadhoiigaaDoorShelf
import Derived.Lib.Strings
namespace Go.Proofs.YtkpcfbadhoiigaaDoor
open Go.ChangeShapes Go.WideShapes Go.ChangeAt Go.RowKit K Q10 U4
set_option linter.unusedVariables false

theorem count3 (a : List UInt8) : a.count 92 + a.count 93 + a.count 34 = a.countP spc := by
  induction a with
  | nil => rfl
  | cons b t ih =>
    rw [List.count_cons, List.count_cons, List.count_cons, List.countP_cons, ← ih]
    have h : (if (b == 92) = true then 1 else 0) + (if (b == 93) = true then 1 else 0) + (if (b == 34) = true then 1 else 0) = (if spc b = true then 1 else 0) := by
      by_cases h1 : b = 92
      · subst h1; decide
      by_cases h2 : b = 93
      · subst h2; decide
      by_cases h3 : b = 34
      · subst h3; decide
      have e1 : (b == 92) = false := beq_eq_false_iff_ne.2 h1
      have e2 : (b == 93) = false := beq_eq_false_iff_ne.2 h2
      have e3 : (b == 34) = false := beq_eq_false_iff_ne.2 h3
      unfold spc
      rw [e1, e2, e3]; rfl
    omega
def eL (a : List UInt8) : List El := [⟨[105], [⟨[110], a⟩]⟩]
theorem eL_text (a : List UInt8) : [91, 105, 32, 110, 61, 34] ++ esc a ++ [34, 93] = elsT (eL a) := by
  simp [elsT, eL, elT, psT, pmT]
theorem eL_els (a : List UInt8) : elsL (elsT (eL a)) = some (eL a, []) := by
  have e : elsT (eL a) = 91 :: ([105] ++ (psT [⟨[110], a⟩] ++ 93 :: [])) := by simp [elsT, eL, elT]
  have h1 : one ([105] ++ (psT [⟨[110], a⟩] ++ 93 :: [])) = some (⟨[105], [⟨[110], a⟩]⟩, []) := by
    have hn := nm_app (n := [105]) (r := psT [⟨[110], a⟩] ++ 93 :: []) (isN_stp (by decide)) (psT_head _ _)
    refine (one_iff _ _ _).2 ⟨hn.1.symm, ?_⟩
    rw [hn.2]
    exact prs_put _ (93 :: []) (fun p hp => by simp at hp; subst hp; show isN [110] = true; decide) (by simp)
  rw [e, elsL_step h1, elsL_stop (by simp)]
  rfl
theorem eL_pa (a : List UInt8) : pa (elsT (eL a)) = if chE a = 0 then some (eL a, []) else none := by
  obtain ⟨_, h2⟩ := pa_what (l := elsT (eL a)) (fun r e => by simp [elsT, eL, elT] at e)
  rw [h2 _ _ (eL_els a)]
  have hk : okL (eL a) = (chE a == 0) := by
    have h1 : isN [105] = true := by decide
    have h2 : isN [110] = true := by decide
    simp [okL, eL, elOk, pmOk, uniq, h1, h2]
  rw [hk]
  by_cases h : chE a = 0
  · rw [if_pos h, h]; rfl
  · rw [if_neg h, beq_eq_false_iff_ne.2 h]; simp
theorem eL_gt (a : List UInt8) : gtS (eL a) [105] [110] = a ∧ gtB (eL a) [105] [110] = true := by
  unfold gtS gtB eL; rw [gt_one]; exact ⟨rfl, rfl⟩
theorem count10_walk (l : List UInt8) (c : UInt8) (w : World) :
    Calls Tryd.prog 27 #[.string (bs l), .string ⟨#[c]⟩] w fun e w' => e = .returned (.int .i64 (l.count c : Nat)) ∧ w = w' := by
  have h := Tryd.strings_Count_one (bs l) c w
  rw [bs_toList] at h
  exact h.mono fun _ _ ⟨a, b⟩ => ⟨a, b.symm⟩
set_option maxRecDepth 100000 in
set_option maxHeartbeats 4000000 in
theorem quoteEscape_walk (I : World → Prop) (KK : Keeps I) (KP : HParse I) (KS : HSame I) (KE : HEscape I) (KG : HGet I) (KL : ∀ w, I w → Leads w) (a b : List UInt8) (ha : a.length ≤ 140737488351232) (hb : b.length ≤ 140737488351232) (w : World) (hw : I w) :
    Calls Tryd.prog 6 #[.string (bs a), .string (bs b)] w fun e w' => e = .returned (.bool true) ∧ Below w.heap.size w w' := by
  have HW := Lib.hid (works10_walk I KK KP KS w hw)
  have HK := Lib.hid (fun w1 (b : Below w.heap.size w w1) => KK w w1 hw b)
  by_cases ha5 : a.length ≤ 500
  rotate_left
  · have h1 : (500 : Int) < (a.length : Nat) := by omega
    clear ha5
    go_enter Tryd.func6, Tryd.ntmps6
    go_wp2_with fail
    refine HW.out.mono ?_
    rintro e w1 ⟨rfl, b1⟩
    go_wp2
    go_ret
    exact ⟨rfl, b1⟩
  have h1 : ¬ (500 : Int) < (a.length : Nat) := by omega
  by_cases hb5 : b.length ≤ 500
  rotate_left
  · have h2 : (500 : Int) < (b.length : Nat) := by omega
    clear ha5 hb5
    go_enter Tryd.func6, Tryd.ntmps6
    go_wp2_with fail
    refine HW.out.mono ?_
    rintro e w1 ⟨rfl, b1⟩
    go_wp2
    go_ret
    exact ⟨rfl, b1⟩
  have h2 : ¬ (500 : Int) < (b.length : Nat) := by omega
  have HEa := Lib.hid (fun w1 (h : I w1) => KE a w1 (by omega) h)
  have HEb := Lib.hid (fun w1 (h : I w1) => KE b w1 (by omega) h)
  have HEab := Lib.hid (fun w1 (h : I w1) => KE (a ++ b) w1 (by rw [List.length_append]; omega) h)
  rw [esc_app] at HEab
  have hea := esc_len a
  have hla := esc_le a
  have hlb := esc_le b
  have HPA := Lib.hid (fun w1 (h : I w1) => KP (elsT (eL a)) w1 (by rw [← eL_text]; simp; omega) h)
  unfold PaQ at HPA
  have hpa := eL_pa a
  have HG := Lib.hid (fun oo oc w1 (h : I w1) (h2 : RdE w1 oo (eL a)) => KG (eL a) oo oc [105] [110] w1 ⟨by simp [eL], fun x hx => by simp [eL] at hx; subst hx; exact ⟨by simp, by simp, fun p hp => by simp at hp; subst hp; exact ⟨by simp, ha⟩⟩⟩ h h2)
  rw [(eL_gt a).1, (eL_gt a).2] at HG
  have HCH := Lib.hid (fun w1 (h : I w1) => check_walk a ha w1 (KL w1 h))
  have HC1 := Lib.hid (fun w1 => count10_walk a 92 w1)
  have HC2 := Lib.hid (fun w1 => count10_walk a 93 w1)
  have HC3 := Lib.hid (fun w1 => count10_walk a 34 w1)
  have hc3 := count3 a
  have HTX := Lib.hid (eL_text a)
  have l1 : bs a ++ bs b = bs (a ++ b) := bs_append a b
  clear KK KP KS KE KG KL
  generalize esc b = EB at *
  generalize hEA : esc a = EA at *
  generalize a.count 92 = x1 at *
  generalize a.count 93 = x2 at *
  generalize a.count 34 = x3 at *
  generalize a.countP spc = cp at *
  have w1' : IntKind.i64.wrap ((x1 : Int) + (x2 : Int)) = (x1 : Int) + (x2 : Int) := IntWalk.i64_in _ (by omega)
  have w2' : IntKind.i64.wrap ((x1 : Int) + (x2 : Int) + (x3 : Int)) = (x1 : Int) + (x2 : Int) + (x3 : Int) := IntWalk.i64_in _ (by omega)
  go_enter Tryd.func6, Tryd.ntmps6
  go_wp2_with fail
  refine HW.out.mono ?_
  rintro e w1 ⟨rfl, b1⟩
  go_wp2_with fail
  refine (HEa.out _ (HK.out _ b1)).mono ?_
  rintro e w2 ⟨rfl, d2⟩
  have b2 := b1.trans (d2.mono b1.size)
  clear d2 b1
  go_wp2_with fail
  refine (HEb.out _ (HK.out _ b2)).mono ?_
  rintro e w3 ⟨rfl, d3⟩
  have b3 := b2.trans (d3.mono b2.size)
  clear d3 b2
  go_wp2_with fail
  refine (HEab.out _ (HK.out _ b3)).mono ?_
  rintro e w4 ⟨rfl, d4⟩
  have b4 := b3.trans (d4.mono b3.size)
  clear d4 b3
  go_wp2_with fail
  refine (HC1.out _).mono ?_
  rintro e w5 ⟨rfl, rfl⟩
  go_wp2_with fail
  refine (HC2.out _).mono ?_
  rintro e w5 ⟨rfl, rfl⟩
  go_wp2_with fail
  refine (HC3.out _).mono ?_
  rintro e w5 ⟨rfl, rfl⟩
  have l2 : bs EA ++ bs EB = bs (EA ++ EB) := bs_append EA EB
  have w3' : IntKind.i64.wrap ((a.length : Int) + ((x1 : Int) + (x2 : Int) + (x3 : Int))) = (a.length : Int) + ((x1 : Int) + (x2 : Int) + (x3 : Int)) := IntWalk.i64_in _ (by omega)
  have hlen : (((EA.length : Nat) : Int) != (a.length : Int) + ((x1 : Int) + (x2 : Int) + (x3 : Int))) = false := by rw [bne_eq_false_iff_eq]; omega
  have hl3 : ({ data := #[91, 105, 32, 110, 61, 34] } : ByteArray) ++ bs EA ++ ({ data := #[34, 93] } : ByteArray) = bs (elsT (eL a)) := by
    show bs [91, 105, 32, 110, 61, 34] ++ bs EA ++ bs [34, 93] = _
    rw [bs_append, bs_append, HTX.out]
  have HL3 := Lib.hid hl3
  clear hl3
  rcases chE_two a with hc | hc
  · rw [if_pos hc] at hpa
    have hck := HCH.out
    rw [hc] at hck
    have HCK := Lib.hid hck
    rw [(pa_of hpa).1, (pa_of hpa).2.1, (pa_of hpa).2.2] at HPA
    clear hpa hck hc HCH
    go_wp2_with fail
    rw [HL3.out]
    refine (HPA.out _ (HK.out _ b4)).mono ?_
    rintro e w6 ⟨oo, oc, rfl, r6, d6⟩
    have b6 := b4.trans (d6.mono b4.size)
    clear d6 b4
    have hi1 : bs [105] = ({ data := #[105] } : ByteArray) := rfl
    have hn1 : bs [110] = ({ data := #[110] } : ByteArray) := rfl
    rw [hi1, hn1] at HG
    go_wp2_with fail
    refine (HCK.out _ (HK.out _ b6)).mono ?_
    rintro e w7 ⟨rfl, m7, rfl⟩
    have b7 := bdr b6 m7
    have r7 : RdE (w6.drewN m7) oo (eL a) := r6
    clear b6 r6
    generalize w6.drewN m7 = w7 at *
    go_wp2_with fail
    refine (HG.out oo oc _ (HK.out _ b7) r7).mono ?_
    rintro e w8 ⟨rfl, d8⟩
    have b8 := b7.trans (d8.mono b7.size)
    clear d8 b7 r7
    go_wp2
    go_ret
    exact ⟨rfl, b8⟩
  · rw [if_neg (by omega)] at hpa
    have hck := HCH.out
    rw [hc] at hck
    have HCK := Lib.hid hck
    rw [(pa_no hpa).1, (pa_no hpa).2.1, (pa_no hpa).2.2] at HPA
    clear hpa hck hc HCH
    go_wp2_with fail
    rw [HL3.out]
    refine (HPA.out _ (HK.out _ b4)).mono ?_
    rintro e w6 ⟨oo, oc, rfl, r6, d6⟩
    have b6 := b4.trans (d6.mono b4.size)
    clear d6 b4
    go_wp2_with fail
    refine (HCK.out _ (HK.out _ b6)).mono ?_
    rintro e w7 ⟨rfl, m7, rfl⟩
    have b7 := bdr b6 m7
    go_wp2
    go_ret
    exact ⟨rfl, b7⟩
end Go.Proofs.YtkpcfbadhoiigaaDoor
