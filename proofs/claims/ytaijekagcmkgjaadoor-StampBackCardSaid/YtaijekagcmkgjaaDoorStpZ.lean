/- A span that spells a number is read as that number. -/
import Derived.Test.YtaijekagcmkgjaaDoorStpV
import Derived.Test.YtaijekagcmkgjaaDoorStpX
namespace Go.Proofs.YtaijekagcmkgjaaDoor
open K S3
set_option linter.unusedVariables false

theorem byU_mono (j k : Nat) (hj : j < 7) (hk : k ≤ j) : byU j ≤ byU k := by
  obtain rfl | rfl | rfl | rfl | rfl | rfl | rfl : j = 0 ∨ j = 1 ∨ j = 2 ∨ j = 3 ∨ j = 4 ∨ j = 5 ∨ j = 6 := by omega
  all_goals
    obtain rfl | rfl | rfl | rfl | rfl | rfl | rfl : k = 0 ∨ k = 1 ∨ k = 2 ∨ k = 3 ∨ k = 4 ∨ k = 5 ∨ k = 6 := by omega
    all_goals first | decide | omega
theorem slGo_first (n j : Nat) (hj : j < 7) (hd : n % byU j = 0) : ∀ e i, i + e = j → ∃ k, i ≤ k ∧ k ≤ j ∧ n % byU k = 0 ∧ slGo (unitL.drop i) n = slGo (unitL.drop k) n := by
  intro e
  induction e with
  | zero => intro i h; obtain rfl : i = j := by omega
            exact ⟨i, Nat.le_refl _, Nat.le_refl _, hd, rfl⟩
  | succ e ih =>
    intro i h
    by_cases hi : n % byU i = 0
    · exact ⟨i, Nat.le_refl _, by omega, hi, rfl⟩
    · obtain ⟨k, h1, h2, h3, h4⟩ := ih (i + 1) (by omega)
      refine ⟨k, by omega, h2, h3, ?_⟩
      rw [unit_drop i (by omega), slGo_no _ _ _ _ hi, h4]
/-- Of a number that one of the units makes out of at most nine digits. -/
theorem sl_of (n j : Nat) (hj : j < 7) (hd : n % byU j = 0) (h9 : n / byU j ≤ 999999999) : ∃ k, k < 7 ∧ n % byU k = 0 ∧ n / byU k ≤ 999999999 ∧ slGo unitL n = (Lib.decDigits (n / byU k) ++ nmU k, 0) := by
  obtain ⟨k, h1, h2, h3, h4⟩ := slGo_first n j hj hd j 0 (by omega)
  have hm := byU_mono j k hj h2
  have hb := unit_in j hj
  have hq : n / byU k ≤ n / byU j := Nat.div_le_div_left hm (by omega)
  refine ⟨k, by omega, h3, by omega, ?_⟩
  have h5 : slGo unitL n = slGo (unitL.drop k) n := h4
  rw [h5, unit_drop k (by omega)]
  exact slGo_yes _ _ _ _ h3 (by omega)
theorem dec_vl (q : Nat) (h : q ≤ 999999999) : vl (Lib.decDigits q) = q ∧ (Lib.decDigits q).all isD = true ∧ 1 ≤ (Lib.decDigits q).length ∧ (Lib.decDigits q).length ≤ 9 := by
  obtain ⟨hl, hp⟩ := pad_dec 8 q (by omega)
  have hv := congrArg vl hp
  rw [vl_pad, dg_vl, Nat.mod_eq_of_lt (by omega)] at hv
  have ha := congrArg (fun x : List UInt8 => x.all isD) hp
  simp only [dg_all, List.all_append, zeros_all, Bool.true_and] at ha
  refine ⟨hv, ha, ?_, hl⟩
  rw [Lib.decDigits_length]; exact Lib.nDigits_pos q
theorem byt_app0 (a b : List UInt8) (h : 0 < a.length) : byt (a ++ b) 0 = byt a 0 := by
  unfold byt; rw [List.getElem?_append_left h]
theorem dec_head : ∀ (f q : Nat), q < 10 ^ f → 0 < q → byt (Lib.decDigits q) 0 ≠ 48 := by
  intro f
  induction f with
  | zero => intro q h h0; simp at h; omega
  | succ f ih =>
    intro q h h0
    by_cases h9 : q < 10
    · rw [dec_small q h9]
      show (b8 (48 + q % 10)).toNat ≠ 48
      rw [b8_toNat _ (by omega)]; omega
    · rw [dec_big q h9]
      have h1 := ih (q / 10) (by rw [Nat.pow_succ] at h; omega) (by omega)
      have hl : 0 < (Lib.decDigits (q / 10)).length := by rw [Lib.decDigits_length]; exact Lib.nDigits_pos _
      rw [byt_app0 _ _ hl]; exact h1
theorem back_spell (n j : Nat) (hn : n ≤ 2305843009213693952) (hj : j < 7) (hd : n % byU j = 0) (h9 : n / byU j ≤ 999999999) : slC n = 0 ∧ spV (slT n) = n ∧ spC (slT n) = 0 := by
  by_cases h0 : n = 0
  · subst h0; decide
  · obtain ⟨k, hk, k1, k2, k3⟩ := sl_of n j hj hd h9
    have e1 : slT n = Lib.decDigits (n / byU k) ++ nmU k := by unfold slT; rw [if_neg h0, k3]
    have e2 : slC n = 0 := by unfold slC; rw [if_neg h0, k3]
    have hui := unit_in k hk
    have hq : n / byU k * byU k = n := Nat.div_mul_cancel (Nat.dvd_of_mod_eq_zero k1)
    have hq0 : 0 < n / byU k := by
      rcases Nat.eq_zero_or_pos (n / byU k) with h | h
      · rw [h, Nat.zero_mul] at hq; exact absurd hq.symm h0
      · exact h
    obtain ⟨v, a, l1, l9⟩ := dec_vl (n / byU k) k2
    have hh := dec_head 10 (n / byU k) (by omega) hq0
    have hhead := unit_head k hk
    rw [e1, e2]
    generalize n / byU k = q at *
    generalize hD : Lib.decDigits q = D at *
    have p : PD (D ++ nmU k) D.length := ⟨by simp, by rw [List.take_left]; exact a, fun _ => by rw [byt_append]; exact hhead.2⟩
    have hd2 : (D ++ nmU k).drop D.length = nmU k := List.drop_left
    have ht2 : (D ++ nmU k).take D.length = D := List.take_left
    have hf : fitB ((D ++ nmU k).take D.length) = true := fit_yes p l1 l9 (Or.inr (by rw [byt_app0 _ _ (by omega)]; exact hh))
    have skip : ∀ i, i ≤ k → spGo unitL (D ++ nmU k) = spGo (unitL.drop i) (D ++ nmU k) := by
      intro i
      induction i with
      | zero => intro _; rfl
      | succ i ih =>
        intro hi
        rw [ih (by omega)]
        exact sp_skip p (by omega) (by rw [hd2]; intro e; have := unit_inj i k (by omega) hk e; omega)
    have hb : ¬ 2305843009213693952 / byU k < vl ((D ++ nmU k).take D.length) := by
      rw [ht2, v]
      have h1 : q * byU k ≤ 2305843009213693952 := by omega
      have := (Nat.le_div_iff_mul_le (by omega : 0 < byU k)).2 h1
      omega
    have hy := sp_yes p hk hd2.symm hf hb
    rw [ht2, v, hq] at hy
    have := skip k (Nat.le_refl _)
    unfold spV spC
    rw [this, hy]
    exact ⟨rfl, rfl, rfl⟩
end Go.Proofs.YtaijekagcmkgjaaDoor
