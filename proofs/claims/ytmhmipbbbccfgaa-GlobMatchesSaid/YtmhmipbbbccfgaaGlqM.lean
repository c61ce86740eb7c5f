/- Going back to the last star alone finds a match just where there is one: plain mathematics, of no program. -/
import Derived.Test.YtmhmipbbbccfgaaGlbP
namespace Go.Proofs.Ytmhmipbbbccfgaa
open K
set_option linter.unusedVariables false
set_option linter.unusedSimpArgs false
namespace G13
/-- So many pieces, none a star, that hit these bytes, one by one. -/
def hits : List Pc → List UInt8 → Bool
  | [], [] => true
  | p :: l, c :: s => !p.isAny && p.hit c && hits l s
  | _, _ => false
theorem hits_len : ∀ {l : List Pc} {s : List UInt8}, hits l s = true → l.length = s.length
  | [], [], _ => rfl
  | p :: l, c :: s, h => by
    simp only [hits, Bool.and_eq_true] at h
    simp [hits_len h.2]
  | [], _ :: _, h => by cases h
  | _ :: _, [], h => by cases h
theorem hits_snoc : ∀ {l : List Pc} {s : List UInt8} {p : Pc} {c : UInt8}, hits l s = true → p.isAny = false → p.hit c = true → hits (l ++ [p]) (s ++ [c]) = true
  | [], [], p, c, _, h1, h2 => by simp [hits, h1, h2]
  | q :: l, d :: s, p, c, h, h1, h2 => by
    simp only [hits, Bool.and_eq_true] at h
    simp only [List.cons_append, hits, Bool.and_eq_true]
    exact ⟨h.1, hits_snoc h.2 h1 h2⟩
  | [], _ :: _, _, _, h, _, _ => by cases h
  | _ :: _, [], _, _, h, _, _ => by cases h
theorem mt_one {p : Pc} (h : p.isAny = false) (l : List Pc) (c : UInt8) (s : List UInt8) : mt (p :: l) (c :: s) = (p.hit c && mt l s) := by
  cases p with
  | any => cases h
  | one b => rw [mt]; rfl
  | set f => rw [mt]; rfl
theorem mt_short {p : Pc} (h : p.isAny = false) (l : List Pc) : mt (p :: l) [] = false := by
  cases p with
  | any => cases h
  | one b => rw [mt]
  | set f => rw [mt]
/-- What hits may be taken away. -/
theorem mt_hits : ∀ {l : List Pc} {s : List UInt8} (k : List Pc) (t : List UInt8), hits l s = true → mt (l ++ k) (s ++ t) = mt k t
  | [], [], k, t, _ => rfl
  | p :: l, c :: s, k, t, h => by
    simp only [hits, Bool.and_eq_true, Bool.not_eq_true'] at h
    rw [List.cons_append, List.cons_append, mt_one h.1.1, h.1.2, Bool.true_and, mt_hits k t h.2]
  | [], _ :: _, _, _, h => by cases h
  | _ :: _, [], _, _, h => by cases h
/-- Pieces that are no stars take just as many bytes. -/
def noAny (l : List Pc) : Bool := l.all fun p => !p.isAny
theorem hits_no : ∀ {l : List Pc} {s : List UInt8}, hits l s = true → noAny l = true
  | [], [], _ => rfl
  | p :: l, c :: s, h => by
    simp only [hits, Bool.and_eq_true] at h
    simp only [noAny, List.all_cons, Bool.and_eq_true]
    exact ⟨h.1.1, hits_no h.2⟩
  | [], _ :: _, h => by cases h
  | _ :: _, [], h => by cases h
theorem mt_no : ∀ (l k : List Pc) (s : List UInt8), noAny l = true → mt (l ++ k) s = true → l.length ≤ s.length ∧ mt k (s.drop l.length) = true
  | [], k, s, _, h => ⟨by simp, h⟩
  | p :: l, k, [], hn, h => by
    simp only [noAny, List.all_cons, Bool.and_eq_true, Bool.not_eq_true'] at hn
    rw [List.cons_append, mt_short hn.1] at h
    cases h
  | p :: l, k, c :: s, hn, h => by
    simp only [noAny, List.all_cons, Bool.and_eq_true, Bool.not_eq_true'] at hn
    rw [List.cons_append, mt_one hn.1, Bool.and_eq_true] at h
    have := mt_no l k s hn.2 h.2
    exact ⟨by simpa using this.1, by simpa using this.2⟩
/-- Another star: only that one is gone back to. -/
theorem any_last (m k : List Pc) (s t : List UInt8) (h : hits m s = true) : mt (Pc.any :: (m ++ Pc.any :: k)) (s ++ t) = mt (Pc.any :: k) t := by
  have hl := hits_len h
  rw [Bool.eq_iff_iff]
  constructor
  · intro h1
    obtain ⟨i, hi, h2⟩ := (mt_any _ _).1 h1
    obtain ⟨h3, h4⟩ := mt_no m (Pc.any :: k) _ (hits_no h) h2
    rw [List.length_drop] at h3
    rw [List.drop_drop] at h4
    obtain ⟨j, hj, h5⟩ := (mt_any _ _).1 h4
    rw [List.drop_drop] at h5
    rw [List.length_drop, List.length_append] at hj
    rw [List.length_append] at h3 hi
    refine (mt_any _ _).2 ⟨i + m.length + j - s.length, by omega, ?_⟩
    rw [List.drop_append, List.drop_eq_nil_of_le (by omega), List.nil_append] at h5
    exact h5
  · intro h1
    refine (mt_any _ _).2 ⟨0, by omega, ?_⟩
    rw [List.drop_zero, mt_hits _ _ h]
    exact h1
/-- No match here: one byte more for the star. -/
theorem any_step (k : List Pc) (c : UInt8) (s : List UInt8) (h : mt k (c :: s) = false) : mt (Pc.any :: k) (c :: s) = mt (Pc.any :: k) s := by
  rw [mt, h, Bool.false_or]
/-- The end: what is left must be stars. -/
theorem any_end (m k : List Pc) (s : List UInt8) (h : hits m s = true) : mt (Pc.any :: (m ++ k)) s = mt k [] := by
  have hl := hits_len h
  rw [Bool.eq_iff_iff]
  constructor
  · intro h1
    obtain ⟨i, hi, h2⟩ := (mt_any _ _).1 h1
    obtain ⟨h3, h4⟩ := mt_no m k _ (hits_no h) h2
    rw [List.length_drop] at h3
    rw [List.drop_drop, List.drop_eq_nil_of_le (by omega)] at h4
    exact h4
  · intro h1
    refine (mt_any _ _).2 ⟨0, by omega, ?_⟩
    have := mt_hits k [] h
    rw [List.append_nil] at this
    rw [List.drop_zero, this]; exact h1
theorem mt_stars_end : ∀ l : List Pc, mt l [] = l.all Pc.isAny
  | [] => by rw [mt]; rfl
  | .any :: l => by rw [mt, mt_stars_end l]; rfl
  | .one b :: l => by rw [mt]; rfl
  | .set f :: l => by rw [mt]; rfl
/-- Where the walk stands: the piece next and the byte at, the piece behind the last star and the byte where it was tried (0: no star yet). -/
def GrAt (l : List Pc) (s : List UInt8) (next at_ again frm : Nat) : Prop :=
  next ≤ l.length ∧ at_ ≤ s.length ∧ frm ≤ at_ ∧ again ≤ next ∧ ((again = 0 ∧ frm = 0 ∧ mt l s = mt (l.drop next) (s.drop at_)) ∨
    (0 < again ∧ at_ - frm = next - again ∧ hits ((l.drop again).take (next - again)) ((s.drop frm).take (at_ - frm)) = true ∧ mt l s = mt (Pc.any :: l.drop again) (s.drop frm)))
theorem gr_start (l : List Pc) (s : List UInt8) : GrAt l s 0 0 0 0 := ⟨by omega, by omega, by omega, by omega, .inl ⟨rfl, rfl, rfl⟩⟩
theorem drop_next {α : Type} {l : List α} {i : Nat} (h : i < l.length) : l.drop i = l[i] :: l.drop (i + 1) := List.drop_eq_getElem_cons h
theorem take_drop_split {α : Type} (l : List α) (a b : Nat) (h : a ≤ b) : l.drop a = (l.drop a).take (b - a) ++ l.drop b := by
  have := (List.take_append_drop (b - a) (l.drop a)).symm
  rw [List.drop_drop, show a + (b - a) = b by omega] at this
  exact this
theorem take_drop_snoc {α : Type} (l : List α) (a b : Nat) (h : a ≤ b) (hb : b < l.length) : (l.drop a).take (b + 1 - a) = (l.drop a).take (b - a) ++ [l[b]] := by
  rw [show b + 1 - a = (b - a) + 1 by omega, List.take_succ_eq_append_getElem (by rw [List.length_drop]; omega)]
  congr 1
  rw [List.getElem_drop]
  simp [show a + (b - a) = b by omega]
theorem gr_star {l : List Pc} {s : List UInt8} {n a g f : Nat} (h : GrAt l s n a g f) (hn : n < l.length) (hp : (l[n]).isAny = true) : GrAt l s (n + 1) a (n + 1) a := by
  obtain ⟨h1, h2, h3, h4, h5⟩ := h
  have hany : l[n] = Pc.any := by cases hx : l[n] <;> rw [hx] at hp <;> first | rfl | cases hp
  refine ⟨by omega, h2, by omega, by omega, .inr ⟨by omega, by omega, ?_, ?_⟩⟩
  · rw [Nat.sub_self, Nat.sub_self, List.take_zero, List.take_zero]; rfl
  · rcases h5 with ⟨h6, h7, h8⟩ | ⟨h6, h7, h8, h9⟩
    · rw [h8, drop_next hn, hany]
    · rw [h9, take_drop_split l g n h4, take_drop_split s f a h3, drop_next hn, hany]
      exact any_last _ _ _ _ h8
theorem gr_hit {l : List Pc} {s : List UInt8} {n a g f : Nat} (h : GrAt l s n a g f) (hn : n < l.length) (ha : a < s.length) (hp : (l[n]).isAny = false) (hh : (l[n]).hit s[a] = true) : GrAt l s (n + 1) (a + 1) g f := by
  obtain ⟨h1, h2, h3, h4, h5⟩ := h
  refine ⟨by omega, by omega, by omega, by omega, ?_⟩
  rcases h5 with ⟨h6, h7, h8⟩ | ⟨h6, h7, h8, h9⟩
  · refine .inl ⟨h6, h7, ?_⟩
    rw [h8, drop_next hn, drop_next ha, mt_one hp, hh, Bool.true_and]
  · refine .inr ⟨h6, by omega, ?_, h9⟩
    rw [take_drop_snoc l g n h4 hn, take_drop_snoc s f a h3 ha]
    exact hits_snoc h8 hp hh
/-- Here is none. -/
theorem gr_miss {l : List Pc} {s : List UInt8} {n a : Nat} (ha : a < s.length) (hm : ∀ h : n < l.length, (l[n]).isAny = false ∧ (l[n]).hit s[a] = false) : mt (l.drop n) (s.drop a) = false := by
  by_cases hn : n < l.length
  · rw [drop_next hn, drop_next ha, mt_one (hm hn).1, (hm hn).2, Bool.false_and]
  · rw [List.drop_eq_nil_of_le (by omega), drop_next ha, mt]; rfl
theorem gr_back {l : List Pc} {s : List UInt8} {n a g f : Nat} (h : GrAt l s n a g f) (hg : 0 < g) (ha : a < s.length) (hm : ∀ h : n < l.length, (l[n]).isAny = false ∧ (l[n]).hit s[a] = false) : GrAt l s g (f + 1) g (f + 1) := by
  obtain ⟨h1, h2, h3, h4, h5⟩ := h
  rcases h5 with ⟨h6, h7, h8⟩ | ⟨h6, h7, h8, h9⟩
  · omega
  refine ⟨by omega, by omega, by omega, by omega, .inr ⟨h6, by omega, ?_, ?_⟩⟩
  · rw [Nat.sub_self, Nat.sub_self, List.take_zero, List.take_zero]; rfl
  · have hmiss := gr_miss ha hm
    have hk : mt (l.drop g) (s.drop f) = false := by
      rw [take_drop_split l g n h4, take_drop_split s f a h3, mt_hits _ _ h8, hmiss]
    rw [drop_next (show f < s.length by omega)] at hk
    rw [h9, drop_next (show f < s.length by omega), any_step _ _ _ hk]
theorem gr_none {l : List Pc} {s : List UInt8} {n a f : Nat} (h : GrAt l s n a 0 f) (ha : a < s.length) (hm : ∀ h : n < l.length, (l[n]).isAny = false ∧ (l[n]).hit s[a] = false) : mt l s = false := by
  obtain ⟨h1, h2, h3, h4, h5⟩ := h
  rcases h5 with ⟨h6, h7, h8⟩ | ⟨h6, h7, h8, h9⟩
  · rw [h8, gr_miss ha hm]
  · omega
theorem gr_end {l : List Pc} {s : List UInt8} {n g f : Nat} (h : GrAt l s n s.length g f) : mt l s = (l.drop n).all Pc.isAny := by
  obtain ⟨h1, h2, h3, h4, h5⟩ := h
  rw [← mt_stars_end]
  rcases h5 with ⟨h6, h7, h8⟩ | ⟨h6, h7, h8, h9⟩
  · rw [h8, List.drop_length]
  · rw [List.take_of_length_le (l := s.drop f) (by rw [List.length_drop]; omega)] at h8
    rw [h9, take_drop_split l g n h4]
    exact any_end _ _ _ h8
theorem all_next {l : List Pc} {n : Nat} (h : n < l.length) : (l.drop n).all Pc.isAny = ((l[n]).isAny && (l.drop (n + 1)).all Pc.isAny) := by
  rw [drop_next h, List.all_cons]
end G13
end Go.Proofs.Ytmhmipbbbccfgaa
