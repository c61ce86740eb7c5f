/- Object identifiers as texts, and their order: plain mathematics, of no program. -/
import Derived.Test.YtndinelljmjfaaaDoorLib
namespace Go.Proofs.YtndinelljmjfaaaDoor
open K
namespace O6

/-! ### Numbers as texts -/
def dg : Nat → Nat → List UInt8
  | 0, _ => []
  | f + 1, n => if n < 10 then [b8 (48 + n)] else dg f (n / 10) ++ [b8 (48 + n % 10)]
theorem dg_small (f n : Nat) (h : n < 10) : dg (f + 1) n = [b8 (48 + n)] := by unfold dg; rw [if_pos h]
theorem dg_big (f n : Nat) (h : 10 ≤ n) : dg (f + 1) n = dg f (n / 10) ++ [b8 (48 + n % 10)] := by
  show (if n < 10 then _ else _) = _
  rw [if_neg (by omega)]
theorem dg_more : ∀ (f n : Nat), 1 ≤ f → n < 10 ^ f → dg (f + 1) n = dg f n
  | 0, _, h, _ => by omega
  | 1, n, _, h => by
    rw [dg_small 1 n (by omega), dg_small 0 n (by omega)]
  | f + 2, n, _, h => by
    by_cases hn : n < 10
    · rw [dg_small _ n hn, dg_small _ n hn]
    · rw [dg_big _ n (by omega), dg_big _ n (by omega), dg_more (f + 1) (n / 10) (by omega) (by rw [Nat.pow_succ] at h; omega)]
/-- A number from 0 on, as text (of at most twenty digits). -/
def nm (n : Nat) : List UInt8 := dg 20 n
def isDg (c : UInt8) : Bool := decide (48 ≤ c.toNat) && decide (c.toNat ≤ 57)
theorem dg_digits : ∀ (f n : Nat), (dg f n).all isDg = true
  | 0, _ => rfl
  | f + 1, n => by
    by_cases hn : n < 10
    · rw [dg_small _ n hn]; simp [isDg, b8_toNat (48 + n) (by omega)]; omega
    · rw [dg_big _ n (by omega), List.all_append, dg_digits f (n / 10)]
      simp [isDg, b8_toNat (48 + n % 10) (by omega)]; omega
theorem dg_len : ∀ (f n : Nat), (dg f n).length ≤ f
  | 0, _ => Nat.le_refl 0
  | f + 1, n => by
    by_cases hn : n < 10
    · rw [dg_small _ n hn]; simp
    · rw [dg_big _ n (by omega), List.length_append]; have := dg_len f (n / 10); simp; omega
theorem dg_len_lt : ∀ (f n : Nat), n < 10 ^ f → 1 ≤ f → ∀ g, 1 ≤ g → (dg g n).length ≤ f
  | 0, _, _, h, _, _ => by omega
  | f + 1, n, h, _, 0, hg => by omega
  | f + 1, n, h, _, g + 1, _ => by
    by_cases hn : n < 10
    · rw [dg_small _ n hn]; simp
    · rw [dg_big _ n (by omega), List.length_append]
      have hf : 1 ≤ f := by
        rcases Nat.eq_zero_or_pos f with h0 | h0
        · subst h0; omega
        · exact h0
      rcases Nat.eq_zero_or_pos g with h0 | h0
      · subst h0; simp [dg]
      · have := dg_len_lt f (n / 10) (by rw [Nat.pow_succ] at h; omega) hf g h0
        simp; omega
theorem nm_len (n : Nat) (h : n < 4294967296) : (nm n).length ≤ 10 := dg_len_lt 10 n (by omega) (by omega) 20 (by omega)
theorem nm_ne (n : Nat) : nm n ≠ [] := by
  unfold nm
  by_cases hn : n < 10
  · rw [dg_small _ n hn]; simp
  · rw [dg_big _ n (by omega)]; simp
/-- What digits come to, behind a number. -/
def vd (n : Nat) (l : List UInt8) : Nat := l.foldl (fun a c => a * 10 + (c.toNat - 48)) n
theorem vd_app (n : Nat) (a b : List UInt8) : vd n (a ++ b) = vd (vd n a) b := by unfold vd; rw [List.foldl_append]
theorem vd_one (n : Nat) (c : UInt8) : vd n [c] = n * 10 + (c.toNat - 48) := rfl
theorem vd_dg : ∀ (f n : Nat), n < 10 ^ f → 1 ≤ f → vd 0 (dg f n) = n
  | 0, _, _, h => by omega
  | f + 1, n, h, _ => by
    by_cases hn : n < 10
    · rw [dg_small _ n hn, vd_one, b8_toNat _ (by omega)]; omega
    · have hf : 1 ≤ f := by
        rcases Nat.eq_zero_or_pos f with h0 | h0
        · subst h0; omega
        · exact h0
      rw [dg_big _ n (by omega), vd_app, vd_dg f (n / 10) (by rw [Nat.pow_succ] at h; omega) hf, vd_one, b8_toNat _ (by omega)]; omega
theorem vd_nm (n : Nat) (h : n < 100000000000000000000) : vd 0 (nm n) = n := vd_dg 20 n (by omega) (by omega)

/-! ### Arcs as a text -/
def put : List Nat → List UInt8
  | [] => []
  | [a] => nm a
  | a :: b :: r => nm a ++ (46 :: put (b :: r))
theorem put_cons (a b : Nat) (r : List Nat) : put (a :: b :: r) = nm a ++ (46 :: put (b :: r)) := rfl
/-- The numbers between points; n is what stands already. -/
def sp : List UInt8 → Nat → List Nat
  | [], n => [n]
  | c :: r, n => if c = 46 then n :: sp r 0 else sp r (n * 10 + (c.toNat - 48))
theorem sp_nil (n : Nat) : sp [] n = [n] := rfl
theorem sp_dot (r : List UInt8) (n : Nat) : sp (46 :: r) n = n :: sp r 0 := by
  show (if (46 : UInt8) = 46 then _ else _) = _; rw [if_pos rfl]
theorem sp_digit (c : UInt8) (r : List UInt8) (n : Nat) (h : isDg c = true) : sp (c :: r) n = sp r (n * 10 + (c.toNat - 48)) := by
  show (if c = 46 then _ else _) = _
  rw [if_neg]
  intro e; subst e; revert h; decide
theorem sp_digits : ∀ (d r : List UInt8) (n : Nat), d.all isDg = true → sp (d ++ r) n = sp r (vd n d)
  | [], r, n, _ => rfl
  | c :: d, r, n, h => by
    rw [List.all_cons, Bool.and_eq_true] at h
    rw [List.cons_append, sp_digit c _ n h.1, sp_digits d r _ h.2]; rfl
theorem sp_put : ∀ (l : List Nat), l ≠ [] → (∀ a ∈ l, a < 100000000000000000000) → sp (put l) 0 = l
  | [], h, _ => absurd rfl h
  | [a], _, h => by
    show sp (nm a) 0 = [a]
    have := sp_digits (nm a) [] 0 (dg_digits 20 a)
    rw [List.append_nil] at this
    rw [this, vd_nm a (h a (by simp)), sp_nil]
  | a :: b :: r, _, h => by
    rw [put_cons, sp_digits (nm a) _ 0 (dg_digits 20 a), vd_nm a (h a (by simp)), sp_dot, sp_put (b :: r) (by simp) (fun x hx => h x (by simp [List.mem_cons] at hx ⊢; right; exact hx))]
def isArcs (l : List Nat) : Bool :=
  decide (2 ≤ l.length) && (decide (l.length ≤ 128) && (l.all (fun a => decide (a ≤ 4294967295)) && ((decide (l.getD 0 0 < 2) && decide (l.getD 1 0 ≤ 39)) || (l.getD 0 0 == 2 && decide (l.getD 1 0 ≤ 4294967215)))))
theorem isArcs_len {l : List Nat} (h : isArcs l = true) : 2 ≤ l.length ∧ l.length ≤ 128 := by
  unfold isArcs at h
  simp only [Bool.and_eq_true, decide_eq_true_eq] at h
  exact ⟨h.1, h.2.1⟩
theorem isArcs_le {l : List Nat} (h : isArcs l = true) : ∀ a ∈ l, a ≤ 4294967295 := by
  unfold isArcs at h
  simp only [Bool.and_eq_true] at h
  intro a ha
  have := List.all_eq_true.1 h.2.2.1 a ha
  simpa using this
theorem isArcs_ne {l : List Nat} (h : isArcs l = true) : l ≠ [] := by
  intro e; subst e; have := isArcs_len h; simp at this
/-- The arcs of a text. -/
def arcs (s : List UInt8) : Option (List Nat) := if isArcs (sp s 0) && put (sp s 0) == s then some (sp s 0) else none
theorem arcs_iff (s : List UInt8) (l : List Nat) : arcs s = some l ↔ isArcs l = true ∧ put l = s := by
  unfold arcs
  constructor
  · intro h
    by_cases hc : (isArcs (sp s 0) && put (sp s 0) == s) = true
    · rw [if_pos hc] at h
      cases h
      rw [Bool.and_eq_true, beq_iff_eq] at hc
      exact hc
    · rw [if_neg hc] at h; cases h
  · rintro ⟨h1, rfl⟩
    have e : sp (put l) 0 = l := sp_put l (isArcs_ne h1) (fun a ha => by have := isArcs_le h1 a ha; omega)
    rw [e, if_pos (by rw [h1]; simp)]
theorem arcs_put {l : List Nat} (h : isArcs l = true) : arcs (put l) = some l := (arcs_iff _ _).2 ⟨h, rfl⟩
theorem put_inj {a b : List Nat} (ha : isArcs a = true) (hb : isArcs b = true) (h : put a = put b) : a = b := by
  have h1 := arcs_put ha
  rw [h, arcs_put hb] at h1
  exact (Option.some.inj h1).symm
theorem put_app : ∀ (a : List Nat) (x : Nat) (b : List Nat), a ≠ [] → put (a ++ x :: b) = put a ++ (46 :: put (x :: b))
  | [], _, _, h => absurd rfl h
  | [a], x, b, _ => rfl
  | a :: c :: r, x, b, _ => by
    show nm a ++ (46 :: put (c :: r ++ x :: b)) = (nm a ++ (46 :: put (c :: r))) ++ _
    rw [put_app (c :: r) x b (by simp), List.append_assoc]; rfl
theorem put_len : ∀ (l : List Nat), (∀ a ∈ l, a ≤ 4294967295) → (put l).length ≤ 11 * l.length
  | [], _ => Nat.le_refl 0
  | [a], h => by
    have := nm_len a (by have := h a (by simp); omega)
    show (nm a).length ≤ _; simp; omega
  | a :: b :: r, h => by
    have h1 := nm_len a (by have := h a (by simp); omega)
    have h2 := put_len (b :: r) (fun x hx => h x (by simp [List.mem_cons] at hx ⊢; right; exact hx))
    rw [put_cons, List.length_append, List.length_cons]
    simp only [List.length_cons] at h2 ⊢; omega

/-! ### The order -/
def lt : List Nat → List Nat → Bool
  | [], [] => false
  | [], _ :: _ => true
  | _ :: _, [] => false
  | a :: x, b :: y => if a = b then lt x y else decide (a < b)
theorem lt_cons (a b : Nat) (x y : List Nat) : lt (a :: x) (b :: y) = if a = b then lt x y else decide (a < b) := rfl
theorem lt_self : ∀ a : List Nat, lt a a = false
  | [] => rfl
  | a :: x => by rw [lt_cons, if_pos rfl, lt_self x]
theorem lt_not : ∀ a b : List Nat, lt a b = true → lt b a = false
  | [], [], h => by cases h
  | [], _ :: _, _ => rfl
  | _ :: _, [], h => by cases h
  | a :: x, b :: y, h => by
    rw [lt_cons] at h ⊢
    by_cases e : a = b
    · rw [if_pos e] at h; rw [if_pos e.symm]; exact lt_not x y h
    · rw [if_neg e] at h; rw [if_neg (fun e2 => e e2.symm)]
      rw [decide_eq_true_eq] at h
      rw [decide_eq_false (by omega)]
theorem lt_total : ∀ a b : List Nat, a ≠ b → lt a b = true ∨ lt b a = true
  | [], [], h => absurd rfl h
  | [], _ :: _, _ => .inl rfl
  | _ :: _, [], _ => .inr rfl
  | a :: x, b :: y, h => by
    rw [lt_cons, lt_cons]
    by_cases e : a = b
    · rw [if_pos e, if_pos e.symm]
      exact lt_total x y (fun e2 => h (by rw [e, e2]))
    · rw [if_neg e, if_neg (fun e2 => e e2.symm)]
      rcases Nat.lt_or_ge a b with h1 | h1
      · left; rw [decide_eq_true h1]
      · right; rw [decide_eq_true (by omega)]
theorem lt_trans : ∀ a b c : List Nat, lt a b = true → lt b c = true → lt a c = true
  | [], [], _, h, _ => by cases h
  | [], _ :: _, [], _, h => by cases h
  | [], _ :: _, _ :: _, _, _ => rfl
  | _ :: _, [], _, h, _ => by cases h
  | _ :: _, _ :: _, [], _, h => by cases h
  | a :: x, b :: y, c :: z, h, k => by
    rw [lt_cons] at h k ⊢
    by_cases e1 : a = b
    · rw [if_pos e1] at h
      by_cases e2 : b = c
      · rw [if_pos e2] at k
        rw [if_pos (e1.trans e2)]; exact lt_trans x y z h k
      · rw [if_neg e2] at k
        rw [if_neg (fun e => e2 (e1.symm.trans e)), e1]; exact k
    · rw [if_neg e1, decide_eq_true_eq] at h
      by_cases e2 : b = c
      · rw [if_neg (fun e => e1 (e.trans e2.symm)), decide_eq_true_eq]; omega
      · rw [if_neg e2, decide_eq_true_eq] at k
        rw [if_neg (by omega), decide_eq_true_eq]; omega
def within (r s : List Nat) : Bool := r.isPrefixOf s
theorem within_iff (r s : List Nat) : within r s = true ↔ ∃ t, s = r ++ t := by
  unfold within
  rw [List.isPrefixOf_iff_prefix]
  exact ⟨fun ⟨t, h⟩ => ⟨t, h.symm⟩, fun ⟨t, h⟩ => ⟨t, h.symm⟩⟩
theorem within_self (a : List Nat) : within a a = true := (within_iff a a).2 ⟨[], by simp⟩
theorem lt_app : ∀ (r : List Nat) (x : Nat) (t : List Nat), lt r (r ++ x :: t) = true
  | [], _, _ => rfl
  | a :: r, x, t => by rw [List.cons_append, lt_cons, if_pos rfl]; exact lt_app r x t
theorem within_lt {a b : List Nat} (h : within a b = true) (hn : a ≠ b) : lt a b = true := by
  obtain ⟨t, rfl⟩ := (within_iff a b).1 h
  cases t with
  | nil => exact absurd (by simp) hn
  | cons x t => exact lt_app a x t
/-- What is within one stands ahead of all that stand behind it and are not within it. -/
theorem within_ahead : ∀ (a t c : List Nat), within a c = false → lt a c = true → lt (a ++ t) c = true
  | [], t, c, h, _ => by cases h
  | a :: r, t, [], _, h => by cases h
  | a :: r, t, c :: z, h, k => by
    rw [lt_cons] at k
    rw [List.cons_append, lt_cons]
    by_cases e : a = c
    · rw [if_pos e] at k ⊢
      refine within_ahead r t z ?_ k
      cases hw : within r z
      · rfl
      · exfalso
        obtain ⟨u, hu⟩ := (within_iff r z).1 hw
        have : within (a :: r) (c :: z) = true := (within_iff _ _).2 ⟨u, by rw [hu, e]; rfl⟩
        rw [this] at h; cases h
    · rw [if_neg e] at k ⊢; exact k
/-- Children stand in the order of their arcs. -/
theorem lt_child : ∀ (s : List Nat) (a b : Nat), lt (s ++ [a]) (s ++ [b]) = decide (a < b)
  | [], a, b => by
    show (if a = b then lt [] [] else decide (a < b)) = _
    by_cases e : a = b
    · rw [if_pos e, decide_eq_false (by omega)]; rfl
    · rw [if_neg e]
  | c :: s, a, b => by rw [List.cons_append, List.cons_append, lt_cons, if_pos rfl]; exact lt_child s a b
end O6
end Go.Proofs.YtndinelljmjfaaaDoor
