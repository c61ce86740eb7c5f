/- Plain mathematics of spans: the digits at a text's beginning tell which unit can be meant. Nothing of the program. -/
import Derived.Test.YtaijekagcmkgjaaDoorStpR
namespace Go.Proofs.YtaijekagcmkgjaaDoor
open K
namespace S3

/-- i is how many digits stand at the beginning. -/
structure PD (l : List UInt8) (i : Nat) : Prop where
  le : i ≤ l.length
  all : (l.take i).all isD = true
  stop : i < l.length → isDn (byt l i) = false
theorem unit_head (k : Nat) (h : k < 7) : 0 < (nmU k).length ∧ isDn (byt (nmU k) 0) = false := by
  obtain rfl | rfl | rfl | rfl | rfl | rfl | rfl : k = 0 ∨ k = 1 ∨ k = 2 ∨ k = 3 ∨ k = 4 ∨ k = 5 ∨ k = 6 := by omega
  all_goals decide
theorem unit_inj (j k : Nat) (hj : j < 7) (hk : k < 7) (h : nmU j = nmU k) : j = k := by
  revert h
  obtain rfl | rfl | rfl | rfl | rfl | rfl | rfl : k = 0 ∨ k = 1 ∨ k = 2 ∨ k = 3 ∨ k = 4 ∨ k = 5 ∨ k = 6 := by omega
  all_goals
    obtain rfl | rfl | rfl | rfl | rfl | rfl | rfl : j = 0 ∨ j = 1 ∨ j = 2 ∨ j = 3 ∨ j = 4 ∨ j = 5 ∨ j = 6 := by omega
    all_goals decide
theorem byt_append (a b : List UInt8) : byt (a ++ b) a.length = byt b 0 := by
  unfold byt; rw [List.getElem?_append_right (Nat.le_refl _), Nat.sub_self]
theorem all_get {l : List UInt8} (h : l.all isD = true) (j : Nat) (hj : j < l.length) : isDn (byt l j) = true := by
  rw [byt_get l j hj]; exact List.all_eq_true.1 h _ (List.getElem_mem _)
theorem byt_take (l : List UInt8) (i j : Nat) (h : j < i) : byt (l.take i) j = byt l j := by
  unfold byt; rw [List.getElem?_take, if_pos h]
/-- Which unit is hit. -/
theorem hit_iff {l : List UInt8} {i : Nat} (p : PD l i) (u : List UInt8) (h0 : 0 < u.length) (hu : isDn (byt u 0) = false) :
    hitU l u = true ↔ fitB (l.take i) = true ∧ l.drop i = u := by
  unfold hitU Lib.hasSuffix
  rw [Bool.and_eq_true, Bool.and_eq_true, List.isSuffixOf_iff_suffix]
  constructor
  · rintro ⟨⟨X, hX⟩, hf, ha⟩
    have hc : cutU l u = X := by
      unfold cutU; rw [← hX]; simp
    rw [hc] at hf ha
    have hlen : l.length = X.length + u.length := by rw [← hX]; simp
    have hi : i = X.length := by
      rcases Nat.lt_trichotomy i X.length with h | h | h
      · exfalso
        have h1 := p.stop (by omega)
        have h2 := all_get ha i h
        rw [← byt_take l X.length i h, ← hX, List.take_left, h2] at h1
        cases h1
      · exact h
      · exfalso
        have h1 := all_get p.all X.length (by rw [List.length_take]; omega)
        rw [byt_take l i X.length h, ← hX, byt_append, hu] at h1
        cases h1
    subst hi
    rw [← hX, List.take_left, List.drop_left]
    exact ⟨hf, rfl⟩
  · rintro ⟨hf, hd⟩
    have hl : l = l.take i ++ u := by rw [← hd, List.take_append_drop]
    have hle := p.le
    have hc : cutU l u = l.take i := by
      unfold cutU
      congr 1
      rw [← hd, List.length_drop]; omega
    rw [hc]
    exact ⟨⟨l.take i, hl.symm⟩, hf, p.all⟩
theorem fit_no {l : List UInt8} {i : Nat} (p : PD l i) (h : i < 1 ∨ 9 < i ∨ (1 < i ∧ byt l 0 = 48)) : fitB (l.take i) = false := by
  have hle := p.le
  cases hk : fitB (l.take i)
  · rfl
  · exfalso
    have h1 := fitB_len hk
    rw [List.length_take] at h1
    rcases h with h | h | ⟨h, hb⟩
    · omega
    · omega
    · unfold fitB at hk
      rw [Bool.or_eq_true] at hk
      rcases hk with hk | hk
      · have hk2 := congrArg List.length (beq_iff_eq.1 hk)
        rw [List.length_take] at hk2
        simp at hk2; omega
      · rw [byt_take l i 0 (by omega)] at hk
        simp [hb] at hk
theorem fit_yes {l : List UInt8} {i : Nat} (p : PD l i) (h1 : 1 ≤ i) (h9 : i ≤ 9) (h : i = 1 ∨ byt l 0 ≠ 48) : fitB (l.take i) = true := by
  have hle := p.le
  unfold fitB
  by_cases hb : byt l 0 = 48
  · obtain rfl : i = 1 := by rcases h with h | h; exact h; exact absurd hb h
    cases l with
    | nil => simp at hle
    | cons c t =>
      have hc : c = 48 := UInt8.toNat_inj.1 (show c.toNat = 48 from hb)
      subst hc; rfl
  · have hne : (l.take i).isEmpty = false := by
      have : 0 < (l.take i).length := by rw [List.length_take]; omega
      simpa using List.length_pos_iff.1 this
    rw [byt_take l i 0 (by omega), hne]
    simp [hb]
    right; omega
theorem spGo_none (l : List UInt8) (L : List (List UInt8 × Nat)) (h : ∀ u ∈ L, hitU l u.1 = false) : spGo L l = (0, 30) := by
  induction L with
  | nil => rfl
  | cons u r ih =>
    obtain ⟨n, b⟩ := u
    rw [spGo_no n b r l (h (n, b) (by simp))]
    exact ih fun v hv => h v (by simp [hv])
theorem unit_mem {u : List UInt8 × Nat} {k : Nat} (h : u ∈ unitL.drop k) : ∃ j, k ≤ j ∧ j < 7 ∧ u.1 = nmU j := by
  obtain ⟨i, hi, he⟩ := List.mem_iff_getElem.1 h
  have hl : unitL.length = 7 := rfl
  rw [List.length_drop, hl] at hi
  refine ⟨k + i, by omega, by omega, ?_⟩
  rw [List.getElem_drop] at he
  unfold nmU
  rw [List.getElem?_eq_getElem (by rw [hl]; omega), he]; rfl
/-- No unit at all. -/
theorem sp_bad {l : List UInt8} {i : Nat} (p : PD l i) (h : i < 1 ∨ 9 < i ∨ (1 < i ∧ byt l 0 = 48)) : spGo unitL l = (0, 30) := by
  refine spGo_none l _ fun u hu => ?_
  obtain ⟨j, _, hj, e⟩ := unit_mem (k := 0) hu
  rw [e]
  have hh := unit_head j hj
  cases hk : hitU l (nmU j)
  · rfl
  · have := (hit_iff p _ hh.1 hh.2).1 hk
    rw [fit_no p h] at this
    cases this.1
theorem sp_end {l : List UInt8} : spGo (unitL.drop 7) l = (0, 30) := rfl
/-- Another unit than this one. -/
theorem sp_skip {l : List UInt8} {i k : Nat} (p : PD l i) (hk : k < 7) (h : nmU k ≠ l.drop i) : spGo (unitL.drop k) l = spGo (unitL.drop (k + 1)) l := by
  rw [unit_drop k hk]
  refine spGo_no _ _ _ _ ?_
  have hh := unit_head k hk
  cases he : hitU l (nmU k)
  · rfl
  · exact absurd ((hit_iff p _ hh.1 hh.2).1 he).2.symm h
theorem sp_big {l : List UInt8} {i k : Nat} (p : PD l i) (hk : k < 7) (h : nmU k = l.drop i) (hf : fitB (l.take i) = true) (hb : 2305843009213693952 / byU k < vl (l.take i)) : spGo (unitL.drop k) l = (0, 30) ∧ spGo (unitL.drop (k + 1)) l = (0, 30) := by
  have hh := unit_head k hk
  have hit := (hit_iff p _ hh.1 hh.2).2 ⟨hf, h.symm⟩
  have hle := p.le
  have hc : cutU l (nmU k) = l.take i := by unfold cutU; congr 1; rw [h, List.length_drop]; omega
  constructor
  · rw [unit_drop k hk]
    exact spGo_big _ _ _ _ hit (by rw [hc]; exact hb)
  · refine spGo_none l _ fun u hu => ?_
    obtain ⟨j, hj1, hj, e⟩ := unit_mem hu
    rw [e]
    have hh2 := unit_head j hj
    cases hk2 : hitU l (nmU j)
    · rfl
    · have := ((hit_iff p _ hh2.1 hh2.2).1 hk2).2
      have := unit_inj j k hj hk (by rw [h, this])
      omega
theorem sp_yes {l : List UInt8} {i k : Nat} (p : PD l i) (hk : k < 7) (h : nmU k = l.drop i) (hf : fitB (l.take i) = true) (hb : ¬ 2305843009213693952 / byU k < vl (l.take i)) : spGo (unitL.drop k) l = (((vl (l.take i) * byU k : Nat) : Int), 0) := by
  have hh := unit_head k hk
  have hit := (hit_iff p _ hh.1 hh.2).2 ⟨hf, h.symm⟩
  have hle := p.le
  have hc : cutU l (nmU k) = l.take i := by unfold cutU; congr 1; rw [h, List.length_drop]; omega
  rw [unit_drop k hk, spGo_yes _ _ _ _ hit (by rw [hc]; exact hb), hc]
end S3
end Go.Proofs.YtaijekagcmkgjaaDoor
