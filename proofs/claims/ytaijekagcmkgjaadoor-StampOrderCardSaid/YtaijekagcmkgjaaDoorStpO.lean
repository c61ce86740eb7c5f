/- Plain mathematics: stamps stand in the order of times. Nothing of the program. -/
import Derived.Test.YtaijekagcmkgjaaDoorStpX
namespace Go.Proofs.YtaijekagcmkgjaaDoor
open K
namespace S3
set_option linter.unusedVariables false

/-! ### The order of texts -/
theorem less_irr (a : List UInt8) : Op.bytesLess a a = false := by
  induction a with
  | nil => rfl
  | cons x t ih =>
    have h : (decide (x < x)) = false := by simp
    unfold Op.bytesLess
    rw [ih]; simp
theorem u8_asym {x y : UInt8} (h : x < y) : ¬ y < x ∧ ¬ x = y ∧ ¬ y = x := by
  rw [UInt8.lt_iff_toNat_lt] at *
  refine ⟨by omega, ?_, ?_⟩
  · intro e; rw [e] at h; omega
  · intro e; rw [e] at h; omega
theorem less_cons (x y : UInt8) (a b : List UInt8) : Op.bytesLess (x :: a) (y :: b) = (decide (x < y) || (x == y && Op.bytesLess a b)) := rfl
theorem less_asym : ∀ (a b : List UInt8), Op.bytesLess a b = true → Op.bytesLess b a = false
  | [], [], h => by cases h
  | [], _ :: _, _ => rfl
  | _ :: _, [], h => by cases h
  | x :: a, y :: b, h => by
    rw [less_cons] at h ⊢
    rw [Bool.or_eq_true, Bool.and_eq_true, decide_eq_true_eq, beq_iff_eq] at h
    rcases h with h | ⟨h, h2⟩
    · obtain ⟨h3, _, h5⟩ := u8_asym h
      rw [decide_eq_false h3, beq_eq_false_iff_ne.2 h5]; rfl
    · subst h
      rw [less_asym a b h2]; simp
theorem less_app_left (p a b : List UInt8) : Op.bytesLess (p ++ a) (p ++ b) = Op.bytesLess a b := by
  induction p with
  | nil => rfl
  | cons x t ih => rw [List.cons_append, List.cons_append, less_cons, ih]; simp
theorem less_app : ∀ (p q a b : List UInt8), p.length = q.length → Op.bytesLess p q = true → Op.bytesLess (p ++ a) (q ++ b) = true
  | [], [], _, _, _, h => by cases h
  | [], _ :: _, _, _, hl, _ => by simp at hl
  | _ :: _, [], _, _, hl, _ => by simp at hl
  | x :: p, y :: q, a, b, hl, h => by
    rw [List.cons_append, List.cons_append, less_cons]
    rw [less_cons, Bool.or_eq_true, Bool.and_eq_true, decide_eq_true_eq, beq_iff_eq] at h
    rcases h with h | ⟨h, h2⟩
    · rw [decide_eq_true h]; rfl
    · subst h
      rw [less_app p q a b (by simpa using hl) h2]; simp
theorem less_tri : ∀ (a b : List UInt8), a = b ∨ Op.bytesLess a b = true ∨ Op.bytesLess b a = true
  | [], [] => Or.inl rfl
  | [], _ :: _ => Or.inr (Or.inl rfl)
  | _ :: _, [] => Or.inr (Or.inr rfl)
  | x :: a, y :: b => by
    rcases Nat.lt_trichotomy x.toNat y.toNat with h | h | h
    · right; left; rw [less_cons, decide_eq_true (UInt8.lt_iff_toNat_lt.2 h)]; rfl
    · obtain rfl : x = y := UInt8.toNat_inj.1 h
      rcases less_tri a b with e | e | e
      · left; rw [e]
      · right; left; rw [less_cons, e]; simp
      · right; right; rw [less_cons, e]; simp
    · right; right; rw [less_cons, decide_eq_true (UInt8.lt_iff_toNat_lt.2 h)]; rfl
theorem less_cut (p q r : List UInt8) (hl : p.length = q.length) (h : Op.bytesLess (p ++ r) (q ++ r) = true) : Op.bytesLess p q = true := by
  rcases less_tri p q with e | e | e
  · rw [e, less_irr] at h; cases h
  · exact e
  · have := less_asym _ _ (less_app q p r r hl.symm e)
    rw [this] at h; cases h
theorem less_dg (k : Nat) : ∀ (a b : Nat), a < b → b < 10 ^ k → Op.bytesLess (dg k a) (dg k b) = true := by
  induction k with
  | zero => intro a b h h2; simp at h2; omega
  | succ k ih =>
    intro a b h h2
    rw [Nat.pow_succ] at h2
    unfold dg
    by_cases hq : a / 10 < b / 10
    · exact less_app _ _ _ _ (by rw [dg_len, dg_len]) (ih _ _ hq (by omega))
    · have e : a / 10 = b / 10 := by omega
      rw [e, less_app_left, less_cons]
      have h3 : b8 (48 + a % 10) < b8 (48 + b % 10) := by
        rw [UInt8.lt_iff_toNat_lt, b8_toNat _ (by omega), b8_toNat _ (by omega)]; omega
      rw [decide_eq_true h3]; rfl
theorem less_mark (c : UInt8) (a b : List UInt8) : Op.bytesLess (c :: a) (c :: b) = Op.bytesLess a b := by rw [less_cons]; simp

/-! ### Stamps -/
theorem less_date {N N' y m d y' m' d' : Nat} (h : IsD N y m d) (k : IsD N' y' m' d') (hN : N < N') (hN' : N' < 27028) (A B : List UInt8) : Op.bytesLess (dtx y m d ++ A) (dtx y' m' d' ++ B) = true := by
  have hy1 := h.y1 (by omega); have hy2 := k.y1 hN'
  have hd1 := h.d1; have hd2 := k.d1
  have a1 := h.lo; have a2 := h.hi; have a3 := k.lo; have a4 := k.hi; have a5 := h.y0; have a6 := k.y0
  refine less_app _ _ _ _ (by rw [dtx_len, dtx_len]) ?_
  unfold dtx
  rcases Nat.lt_trichotomy y y' with e | e | e
  · exact less_app _ _ _ _ (by rw [dg_len, dg_len]) (less_dg 4 _ _ e (by omega))
  · subst e
    rw [less_app_left, less_mark]
    have b1 := h.dlo; have b2 := h.dhi; have b3 := k.dlo; have b4 := k.dhi; have b5 := h.m1; have b6 := k.m1; have b7 := h.m2; have b8 := k.m2
    rcases Nat.lt_trichotomy m m' with f | f | f
    · exact less_app _ _ _ _ (by rw [dg_len, dg_len]) (less_dg 2 _ _ f (by omega))
    · subst f
      rw [less_app_left, less_mark]
      have c1 := h.dd; have c2 := k.dd
      exact less_dg 2 _ _ (by omega) (by omega)
    · exfalso
      have := da_mono y (m' + 1) (by omega) (m - (m' + 1)) (by omega)
      rw [show m' + 1 + (m - (m' + 1)) = m by omega] at this; omega
  · exfalso
    have := ya_mono ((y' : Int) + 1) y (by omega) (by omega); omega
theorem less_hm (x x' : Nat) (h : x < x') (h2 : x' < 1440) : Op.bytesLess (hmt x) (hmt x') = true := by
  unfold hmt
  by_cases hq : x / 60 < x' / 60
  · exact less_app _ _ _ _ (by rw [dg_len, dg_len]) (less_dg 2 _ _ hq (by omega))
  · have e : x / 60 = x' / 60 := by omega
    rw [e, less_app_left, less_mark]
    exact less_dg 2 _ _ (by omega) (by omega)
theorem less_clk (s s' : Nat) (h : s % 86400 < s' % 86400) : Op.bytesLess (clk s) (clk s') = true := by
  have e1 : s / 60 % 1440 = s % 86400 / 60 := by omega
  have e2 : s' / 60 % 1440 = s' % 86400 / 60 := by omega
  unfold clk
  rw [e1, e2]
  by_cases hq : s % 86400 / 60 < s' % 86400 / 60
  · exact less_app _ _ _ _ (by rw [hmt_len, hmt_len]) (less_hm _ _ hq (by omega))
  · have e : s % 86400 / 60 = s' % 86400 / 60 := by omega
    rw [e, less_app_left, less_mark]
    exact less_dg 2 _ _ (by omega) (by omega)
theorem less_frc (n n' : Nat) (h : n < n') (h9 : n' < 1000000000) (hl : (frc n).length = (frc n').length) : Op.bytesLess (frc n) (frc n') = true := by
  have f0 := frc_digits n' (by omega) h9
  by_cases h0 : n = 0
  · exfalso
    unfold frc at hl
    rw [if_pos h0, if_neg (by omega)] at hl
    simp at hl
  · have f1 := frc_digits n h0 (by omega)
    unfold frc at hl ⊢
    rw [if_neg h0, if_neg (by omega)] at hl ⊢
    rw [List.length_cons, List.length_cons] at hl
    rw [less_mark]
    obtain ⟨j, hj⟩ := trim_pad (dg 9 n) 48
    obtain ⟨j', hj'⟩ := trim_pad (dg 9 n') 48
    have l1 := congrArg List.length hj
    have l2 := congrArg List.length hj'
    rw [dg_len, List.length_append, List.length_replicate] at l1 l2
    obtain rfl : j = j' := by omega
    have hd := less_dg 9 n n' h h9
    rw [hj, hj'] at hd
    have e1 : Lib.trimRightB (Lib.trimRightB (dg 9 n) 48 ++ List.replicate j 48) 48 = Lib.trimRightB (dg 9 n) 48 := by rw [← hj]
    exact less_cut _ _ (List.replicate j 48) (by omega) hd
/-- Of two times the earlier one's stamp stands ahead, if both have one length. -/
theorem less_print (t u y m d y' m' d' : Nat) (htu : t < u) (hu : u ≤ 2305843009213693952) (h : IsD (t / 86400000000000) y m d) (k : IsD (u / 86400000000000) y' m' d')
    (hl : (txt y m d (t / 1000000000) (t % 1000000000) ++ [90]).length = (txt y' m' d' (u / 1000000000) (u % 1000000000) ++ [90]).length) :
    Op.bytesLess (txt y m d (t / 1000000000) (t % 1000000000) ++ [90]) (txt y' m' d' (u / 1000000000) (u % 1000000000) ++ [90]) = true := by
  rw [List.length_append, List.length_append, txt_len, txt_len] at hl
  rw [txt_eq, txt_eq]
  by_cases hN : t / 86400000000000 < u / 86400000000000
  · exact less_date h k hN (by omega) _ _
  · have e : t / 86400000000000 = u / 86400000000000 := by omega
    rw [e] at h
    obtain ⟨rfl, rfl, rfl⟩ := h.uniq k
    rw [less_app_left, less_mark]
    by_cases hs : t / 1000000000 < u / 1000000000
    · exact less_app _ _ _ _ (by rw [clk_len, clk_len]) (less_clk _ _ (by omega))
    · have e2 : t / 1000000000 = u / 1000000000 := by omega
      rw [e2, less_app_left]
      exact less_app _ _ _ _ (by omega) (less_frc _ _ (by omega) (by omega) (by omega))
end S3
end Go.Proofs.YtaijekagcmkgjaaDoor
