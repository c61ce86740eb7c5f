/- Texts on the program and on the document, joined: PbhA, ParV. -/
import Derived.Test.YtaeglmgpoboihaaGreatDoorMa14
import Derived.Test.YtaeglmgpoboihaaGreatDoorMa13
import Derived.Deep.LoopGhost
import Derived.RegionTactic
/- The book of two lists of tokens, one behind the other. Plain mathematics, of no program. -/
namespace Go.Proofs.YtaeglmgpoboihaaGreatDoor
open K L15 S3
open L14 (Tk)
set_option linter.unusedVariables false
set_option linter.unusedSimpArgs false
namespace L15
theorem sign_if (T : List Tk) (l : Nat) (t : List UInt8) (s : Pi) : sign T l t s = if at_ T s 5 t = true then nx s else L15.fail T l s := by
  unfold sign L15.take; split <;> rfl
/-! ### The first list: the same tokens, until it ends -/
def DP (T : List Tk) (s : Pi) : Prop := s.bad ≠ none ∨ T.length ≤ s.p
theorem cur_app {T : List Tk} (V : List Tk) {s : Pi} (h : s.p < T.length) : cur (T ++ V) s = cur T s := by
  unfold cur; rw [List.getElem?_append_left h]
theorem getD_pre {T : List Tk} (V : List Tk) {i : Nat} (h : i < T.length) : (T ++ V).getD i noTk = T.getD i noTk := by
  rw [List.getD_eq_getElem?_getD, List.getD_eq_getElem?_getD, List.getElem?_append_left h]
theorem sim_pre (T V : List Tk) (l l' : Nat) : Sim (DP T) Eq T (T ++ V) l l' where
  see s s' h := by
    subst h
    rcases Nat.lt_or_ge s.p T.length with hp | hp
    · right
      refine ⟨fun k t => ?_, ?_, rfl⟩
      · unfold at_; rw [cur_app V hp]
      · unfold txt; rw [getD_pre V hp]
    · exact .inl (.inr hp)
  nx s s' k t h _ := by rw [h]
  fail s s' h := .inl (.inl (fail_bad T l s))
  dnx s h := h.imp id fun h => Nat.le_succ_of_le h
  dfail s _ := .inl (fail_bad T l s)
  len := by simp
/-- A part that ends in a sign that is there. -/
theorem pre_end {T V : List Tk} {l l' : Nat} {α : Type} {f f' : Pi → α × Pi} (h : Rl (DP T) Eq f f') (s : Pi) (t : List UInt8) (hb : (sign T l t (f s).2).bad = none) :
    (f' s).1 = (f s).1 ∧ sign (T ++ V) l' t (f' s).2 = sign T l t (f s).2 ∧ (sign T l t (f s).2).p ≤ T.length := by
  have hat : at_ T (f s).2 5 t = true := by
    cases hx : at_ T (f s).2 5 t with
    | true => rfl
    | false => rw [sign_if, hx, if_neg Bool.false_ne_true] at hb; exact absurd hb (fail_bad T l _)
  have hlt := at_lt hat
  rw [sign_if T l t (f s).2, if_pos hat] at hb ⊢
  have hb' : (f s).2.bad = none := hb
  rcases h.2 s s rfl with hd | ⟨h1, h2⟩
  · rcases hd with hd | hd
    · exact absurd hb' hd
    · omega
  · refine ⟨h1, ?_, hlt⟩
    rw [← h2, sign_if]
    have : at_ (T ++ V) (f s).2 5 t = true := by
      unfold at_ at hat ⊢; rw [cur_app V hlt]; exact hat
    rw [if_pos this]
theorem bo_bad {T : List Tk} {l : Nat} {s : Pi} (h : s.bad ≠ none) (b : Bk) (g : Nat) : (books T l g b s).2.bad ≠ none := by
  rw [bo_stop (more_bad h)]; exact h
theorem lineAt_pre {T : List Tk} (V : List Tk) {s : Pi} (h : s.p < T.length) : lineAt (T ++ V) s = lineAt T s := by
  unfold lineAt; rw [getD_pre V h]
theorem at_pre {T : List Tk} (V : List Tk) {s : Pi} (h : s.p < T.length) (k : Nat) (t : List UInt8) : at_ (T ++ V) s k t = at_ T s k t := by
  unfold at_; rw [cur_app V h]
theorem books_pre (T V : List Tk) (l l' : Nat) : ∀ (f F : Nat) (b : Bk) (s : Pi), (books T l f b s).2.bad = none → s.bad = none → s.p ≤ T.length → T.length + 1 ≤ f + s.p → T.length + V.length + 2 ≤ F + s.p →
    ∃ G, V.length + 2 ≤ G ∧ books (T ++ V) l' F b s = books (T ++ V) l' G (books T l f b s).1 ⟨T.length, none⟩ := by
  intro f
  induction f with
  | zero => intro F b s h1 h2 h3 h4 h5; omega
  | succ f ih =>
    intro F b s h1 h2 h3 h4 h5
    rcases Nat.lt_or_ge s.p T.length with hp | hp
    · have hm := more_yes h2 hp
      have hm' : more (T ++ V) s = true := more_yes h2 (by rw [List.length_append]; omega)
      have hn : (nx s).p = s.p + 1 := rfl
      obtain ⟨F, rfl⟩ : ∃ G, F = G + 1 := ⟨F - 1, by omega⟩
      have S := sim_pre T V l l'
      rcases ha : at_ T s 1 wTable with _ | _
      · rcases hc : at_ T s 1 wRule with _ | _
        · rcases hd : at_ T s 1 wWatch with _ | _
          · rw [bo_none hm ha hc hd] at h1
            exact absurd h1 (bo_bad (fail_bad T l s) _ _)
          · have ha' := (at_pre V hp 1 wTable).trans ha
            have hc' := (at_pre V hp 1 wRule).trans hc
            have hd' := (at_pre V hp 1 wWatch).trans hd
            rw [bo_watch hm ha hc hd] at h1 ⊢
            rw [bo_watch hm' ha' hc' hd', lineAt_pre V hp]
            have hb : (watch T l (lineAt T s : Nat) (nx s)).2.bad = none := by
              cases hx : (watch T l (lineAt T s : Nat) (nx s)).2.bad with
              | none => rfl
              | some _ => exact absurd h1 (bo_bad (by rw [hx]; simp) _ _)
            have hw := watch_p T l (lineAt T s : Nat) (nx s)
            rw [watch_b] at hb hw h1 ⊢
            rw [watch_b]
            obtain ⟨e1, e2, e3⟩ := pre_end (V := V) (l' := l') (rl_watchB S (lineAt T s : Nat)) (nx s) [125] hb
            rw [e1, e2]
            simp only at hw
            exact ih F _ _ h1 hb e3 (by simp only; omega) (by simp only; omega)
        · have ha' := (at_pre V hp 1 wTable).trans ha
          have hc' := (at_pre V hp 1 wRule).trans hc
          rw [bo_rule hm ha hc] at h1 ⊢
          rw [bo_rule hm' ha' hc', lineAt_pre V hp]
          have hb : (rule T l (lineAt T s : Nat) (nx s)).2.bad = none := by
            cases hx : (rule T l (lineAt T s : Nat) (nx s)).2.bad with
            | none => rfl
            | some _ => exact absurd h1 (bo_bad (by rw [hx]; simp) _ _)
          have hw := rule_p T l (lineAt T s : Nat) (nx s)
          rw [rule_b] at hb hw h1 ⊢
          rw [rule_b]
          obtain ⟨e1, e2, e3⟩ := pre_end (V := V) (l' := l') (rl_ruleB S (lineAt T s : Nat)) (nx s) [125] hb
          rw [e1, e2]
          simp only at hw
          exact ih F _ _ h1 hb e3 (by simp only; omega) (by simp only; omega)
      · have ha' := (at_pre V hp 1 wTable).trans ha
        rw [bo_table hm ha] at h1 ⊢
        rw [bo_table hm' ha', lineAt_pre V hp]
        have hb : (table T l (lineAt T s : Nat) (nx s)).2.bad = none := by
          cases hx : (table T l (lineAt T s : Nat) (nx s)).2.bad with
          | none => rfl
          | some _ => exact absurd h1 (bo_bad (by rw [hx]; simp) _ _)
        have hw := table_p T l (lineAt T s : Nat) (nx s)
        rw [table_b] at hb hw h1 ⊢
        rw [table_b]
        obtain ⟨e1, e2, e3⟩ := pre_end (V := V) (l' := l') (rl_tableB S (lineAt T s : Nat)) (nx s) [125] hb
        rw [e1, e2]
        simp only at hw
        exact ih F _ _ h1 hb e3 (by simp only; omega) (by simp only; omega)
    · have hs : s = ⟨T.length, none⟩ := by
        obtain ⟨p, bad⟩ := s
        simp only at h2 h3 hp
        rw [h2, show p = T.length by omega]
      have he : books T l (f + 1) b s = (b, s) := bo_stop (more_end (by omega)) b (f + 1)
      rw [he, hs]
      rw [hs] at h5
      simp only at h5
      exact ⟨F, by omega, rfl⟩
/-! ### The second list: the same tokens, later -/
def sh (d : Nat) (x : Tk) : Tk := ⟨x.k, x.t, x.l + d⟩
def RS (n : Nat) (s s' : Pi) : Prop := s'.p = n + s.p ∧ s'.bad.isNone = s.bad.isNone
section
variable (U T : List Tk) (d : Nat)
theorem get_suf (i : Nat) : (U ++ T.map (sh d))[U.length + i]? = T[i]?.map (sh d) := by
  rw [List.getElem?_append_right (by omega), Nat.add_sub_cancel_left, List.getElem?_map]
theorem cur_suf {s s' : Pi} (h : RS U.length s s') : cur (U ++ T.map (sh d)) s' = (cur T s).map (sh d) := by
  obtain ⟨h1, h2⟩ := h
  unfold cur
  rw [h1]
  cases hs : s.bad with
  | none =>
    rw [hs] at h2
    cases hs' : s'.bad with
    | none => exact get_suf U T d s.p
    | some _ => rw [hs'] at h2; cases h2
  | some _ =>
    rw [hs] at h2
    cases hs' : s'.bad with
    | none => rw [hs'] at h2; cases h2
    | some _ => rfl
theorem at_suf {s s' : Pi} (h : RS U.length s s') (k : Nat) (t : List UInt8) : at_ (U ++ T.map (sh d)) s' k t = at_ T s k t := by
  unfold at_; rw [cur_suf U T d h]
  cases cur T s <;> rfl
theorem getD_suf {i : Nat} : (U ++ T.map (sh d)).getD (U.length + i) noTk = (T[i]?.map (sh d)).getD noTk := by
  rw [List.getD_eq_getElem?_getD, get_suf]
theorem sim_suf (l l' : Nat) : Sim (fun _ => False) (RS U.length) T (U ++ T.map (sh d)) l l' where
  see s s' h := by
    refine .inr ⟨fun k t => at_suf U T d h k t, ?_, h.2⟩
    unfold txt
    rw [h.1, getD_suf, List.getD_eq_getElem?_getD]
    cases T[s.p]? <;> rfl
  nx s s' k t h _ := ⟨by show s'.p + 1 = U.length + (s.p + 1); rw [h.1]; omega, h.2⟩
  fail s s' h := .inr (by
    have h2 := h.2
    refine ⟨?_, ?_⟩
    · unfold L15.fail
      cases hs : s.bad <;> cases hs' : s'.bad <;> exact h.1
    · have h3 := fail_bad T l s
      have h4 := fail_bad (U ++ T.map (sh d)) l' s'
      cases h5 : (L15.fail T l s).bad with
      | none => exact absurd h5 h3
      | some _ =>
        cases h6 : (L15.fail (U ++ T.map (sh d)) l' s').bad with
        | none => exact absurd h6 h4
        | some _ => rfl)
  dnx s h := h
  dfail s h := h
  len := by simp
def shT (x : Tb) : Tb := { x with l := x.l + d }
def shR (x : Ru) : Ru := { x with l := x.l + d }
def shW (x : Wt) : Wt := { x with l := x.l + d }
def shB (b : Bk) : Bk := ⟨b.tb.map (shT d), b.ru.map (shR d), b.wt.map (shW d)⟩
def apB (b c : Bk) : Bk := ⟨b.tb ++ c.tb, b.ru ++ c.ru, b.wt ++ c.wt⟩
theorem suf_end {l l' : Nat} {α : Type} {f f' : Pi → α × Pi} (h : Rl (fun _ => False) (RS U.length) f f') {s s' : Pi} (hs : RS U.length s s') (t : List UInt8) :
    (f' s').1 = (f s).1 ∧ RS U.length (sign T l t (f s).2) (sign (U ++ T.map (sh d)) l' t (f' s').2) := by
  rcases (h.then (sim_suf U T d l l') t).2 s s' hs with h1 | ⟨h1, h2⟩
  · exact h1.elim
  · exact ⟨h1, h2⟩
theorem lineAt_suf {s s' : Pi} (h : RS U.length s s') (hp : s.p < T.length) : lineAt (U ++ T.map (sh d)) s' = lineAt T s + d := by
  unfold lineAt
  rw [h.1, getD_suf, List.getD_eq_getElem?_getD, List.getElem?_eq_getElem hp]; rfl
theorem more_suf {s s' : Pi} (h : RS U.length s s') : more (U ++ T.map (sh d)) s' = more T s := by
  unfold more
  rw [h.2, h.1]
  congr 1
  exact decide_eq_decide.2 (by rw [List.length_append, List.length_map]; omega)
theorem clause_ln (T : List Tk) (l : Nat) (w : Wt) (seen : List Nat) (s : Pi) (ln : Int) : clause T l { w with l := ln } seen s = ({ (clause T l w seen s).1 with l := ln }, (clause T l w seen s).2) := by
  unfold clause
  rcases which T l seen wClauses 0 none s with ⟨_ | i, a⟩
  · rfl
  · dsimp only
    (repeat' split) <;> rfl
theorem watches_ln (T : List Tk) (l : Nat) (ln : Int) : ∀ (f : Nat) (w : Wt) (seen : List Nat) (s : Pi), watches T l f { w with l := ln } seen s = ({ (watches T l f w seen s).1 with l := ln }, (watches T l f w seen s).2)
  | 0, w, seen, s => rfl
  | f + 1, w, seen, s => by
    rw [watches, watches]
    split
    · rw [clause_ln]
      exact watches_ln T l ln f _ _ _
    · rfl
theorem watches_l (T : List Tk) (l : Nat) : ∀ (f : Nat) (w : Wt) (seen : List Nat) (s : Pi), (watches T l f w seen s).1.l = w.l := by
  intro f w seen s
  have := watches_ln T l w.l f w seen s
  exact congrArg (fun x => x.1.l) this
theorem watchB_ln (T : List Tk) (l : Nat) (ln ln' : Int) (s : Pi) : watchB T l ln' s = ({ (watchB T l ln s).1 with l := ln' }, (watchB T l ln s).2) := by
  unfold watchB waF
  exact watches_ln T l ln' (T.length + 2) ⟨(L15.take T l 1 [] s).1, ln, (kind T l (L15.take T l 1 [] s).2).1, [], [], 0, 0, [], 0, []⟩ [] _
theorem watchB_l (T : List Tk) (l : Nat) (ln : Int) (s : Pi) : (watchB T l ln s).1.l = ln := by
  unfold watchB waF
  rw [watches_l]
theorem books_suf (l l' : Nat) (c : Bk) : ∀ (f F : Nat) (b : Bk) (s s' : Pi), (s.bad = none → T.length ≤ f + s.p) → f ≤ F → RS U.length s s' →
    (books (U ++ T.map (sh d)) l' F (apB c (shB d b)) s').1 = apB c (shB d (books T l f b s).1) ∧ RS U.length (books T l f b s).2 (books (U ++ T.map (sh d)) l' F (apB c (shB d b)) s').2 := by
  intro f
  induction f with
  | zero =>
    intro F b s s' hf hF h
    have hm : more T s = false := by
      cases hb : s.bad with
      | none => exact more_end (by have := hf hb; omega)
      | some _ => exact more_bad (by rw [hb]; simp)
    rw [bo_stop hm, bo_stop ((more_suf U T d h).trans hm)]
    exact ⟨rfl, h⟩
  | succ f ih =>
    intro F b s s' hf hF h
    rcases hm : more T s with _ | _
    · rw [bo_stop hm, bo_stop ((more_suf U T d h).trans hm)]
      exact ⟨rfl, h⟩
    · have hm' := (more_suf U T d h).trans hm
      obtain ⟨F, rfl⟩ : ∃ G, F = G + 1 := ⟨F - 1, by omega⟩
      have hbn : s.bad = none := by
        cases hb : s.bad with
        | none => rfl
        | some _ => rw [more_bad (by rw [hb]; simp)] at hm; cases hm
      have hp : s.p < T.length := by
        rcases Nat.lt_or_ge s.p T.length with h1 | h1
        · exact h1
        · rw [more_end (by omega)] at hm; cases hm
      have hfu := hf hbn
      have hn : (nx s).p = s.p + 1 := rfl
      have hl := lineAt_suf U T d h hp
      have S := sim_suf U T d l l'
      have hnx : ∀ t, at_ T s 1 t = true → RS U.length (nx s) (nx s') := fun t ht => S.nx s s' 1 t h ht
      rcases ha : at_ T s 1 wTable with _ | _
      · have ha' := (at_suf U T d h 1 wTable).trans ha
        rcases hc : at_ T s 1 wRule with _ | _
        · have hc' := (at_suf U T d h 1 wRule).trans hc
          rcases hd : at_ T s 1 wWatch with _ | _
          · have hd' := (at_suf U T d h 1 wWatch).trans hd
            rw [bo_none hm ha hc hd, bo_none hm' ha' hc' hd']
            rcases S.fail s s' h with h4 | h4
            · exact h4.elim
            · exact ih F b _ _ (fun hx => absurd hx (fail_bad T l s)) (by omega) h4
          · have hd' := (at_suf U T d h 1 wWatch).trans hd
            rw [bo_watch hm ha hc hd, bo_watch hm' ha' hc' hd', hl, watch_b, watch_b]
            have hw := watch_p T l (lineAt T s : Nat) (nx s)
            rw [watch_b] at hw
            simp only at hw
            obtain ⟨e1, e2⟩ := suf_end U T d (l := l) (l' := l') (rl_watchB S ((lineAt T s + d : Nat) : Int)) (hnx _ hd) [125]
            rw [e1]
            have e3 : (watchB T l ((lineAt T s + d : Nat) : Int) (nx s)).1 = shW d (watchB T l (lineAt T s : Nat) (nx s)).1 := by
              rw [watchB_ln T l (lineAt T s : Nat)]; unfold shW; rw [watchB_l]; rfl
            have e4 : (watchB T l ((lineAt T s + d : Nat) : Int) (nx s)).2 = (watchB T l (lineAt T s : Nat) (nx s)).2 := by
              rw [watchB_ln T l (lineAt T s : Nat)]
            rw [e4] at e2
            rw [e3]
            have := ih F { b with wt := b.wt ++ [(watchB T l (lineAt T s : Nat) (nx s)).1] } _ _ (fun _ => by omega) (by omega) e2
            rw [show apB c (shB d { b with wt := b.wt ++ [(watchB T l (lineAt T s : Nat) (nx s)).1] }) = { (apB c (shB d b)) with wt := (apB c (shB d b)).wt ++ [shW d (watchB T l (lineAt T s : Nat) (nx s)).1] } by simp [apB, shB]] at this
            exact this
        · have hc' := (at_suf U T d h 1 wRule).trans hc
          rw [bo_rule hm ha hc, bo_rule hm' ha' hc', hl, rule_b, rule_b]
          have hw := rule_p T l (lineAt T s : Nat) (nx s)
          rw [rule_b] at hw
          simp only at hw
          obtain ⟨e1, e2⟩ := suf_end U T d (l := l) (l' := l') (rl_ruleB S ((lineAt T s + d : Nat) : Int)) (hnx _ hc) [125]
          rw [e1]
          have e3 : (ruleB T l ((lineAt T s + d : Nat) : Int) (nx s)).1 = shR d (ruleB T l (lineAt T s : Nat) (nx s)).1 := rfl
          have e4 : (ruleB T l ((lineAt T s + d : Nat) : Int) (nx s)).2 = (ruleB T l (lineAt T s : Nat) (nx s)).2 := rfl
          rw [e4] at e2
          rw [e3]
          have := ih F { b with ru := b.ru ++ [(ruleB T l (lineAt T s : Nat) (nx s)).1] } _ _ (fun _ => by omega) (by omega) e2
          rw [show apB c (shB d { b with ru := b.ru ++ [(ruleB T l (lineAt T s : Nat) (nx s)).1] }) = { (apB c (shB d b)) with ru := (apB c (shB d b)).ru ++ [shR d (ruleB T l (lineAt T s : Nat) (nx s)).1] } by simp [apB, shB]] at this
          exact this
      · have ha' := (at_suf U T d h 1 wTable).trans ha
        rw [bo_table hm ha, bo_table hm' ha', hl, table_b, table_b]
        have hw := table_p T l (lineAt T s : Nat) (nx s)
        rw [table_b] at hw
        simp only at hw
        obtain ⟨e1, e2⟩ := suf_end U T d (l := l) (l' := l') (rl_tableB S ((lineAt T s + d : Nat) : Int)) (hnx _ ha) [125]
        rw [e1]
        have e3 : (tableB T l ((lineAt T s + d : Nat) : Int) (nx s)).1 = shT d (tableB T l (lineAt T s : Nat) (nx s)).1 := rfl
        have e4 : (tableB T l ((lineAt T s + d : Nat) : Int) (nx s)).2 = (tableB T l (lineAt T s : Nat) (nx s)).2 := rfl
        rw [e4] at e2
        rw [e3]
        have := ih F { b with tb := b.tb ++ [(tableB T l (lineAt T s : Nat) (nx s)).1] } _ _ (fun _ => by omega) (by omega) e2
        rw [show apB c (shB d { b with tb := b.tb ++ [(tableB T l (lineAt T s : Nat) (nx s)).1] }) = { (apB c (shB d b)) with tb := (apB c (shB d b)).tb ++ [shT d (tableB T l (lineAt T s : Nat) (nx s)).1] } by simp [apB, shB]] at this
        exact this
/-- The book of two lists, one behind the other. -/
theorem parse_app {b1 b2 : Bk} (h1 : parseT U = (b1, none)) (h2 : parseT T = (b2, none)) : parseT (U ++ T.map (sh d)) = (apB b1 (shB d b2), none) := by
  unfold parseT at h1 h2 ⊢
  have a1 := congrArg (·.1) h1
  have a2 := congrArg (·.2) h1
  have c1 := congrArg (·.1) h2
  have c2 := congrArg (·.2) h2
  simp only at a1 a2 c1 c2
  obtain ⟨G, hG, e⟩ := books_pre U (T.map (sh d)) (lastL U) (lastL (U ++ T.map (sh d))) (U.length + 2) ((U ++ T.map (sh d)).length + 2) noBk ⟨0, none⟩ a2 rfl (Nat.zero_le _) (by simp only; omega) (by rw [List.length_append]; simp only; omega)
  rw [List.length_map] at hG
  rw [a1] at e
  have k := books_suf U T d (lastL T) (lastL (U ++ T.map (sh d))) b1 (T.length + 2) G noBk ⟨0, none⟩ ⟨U.length, none⟩ (fun _ => by omega) hG ⟨rfl, rfl⟩
  have e0 : apB b1 (shB d noBk) = b1 := by unfold apB shB noBk; simp
  rw [e0, c1] at k
  rw [e]
  obtain ⟨k1, k2⟩ := k
  rw [k1]
  have k3 := k2.2
  rw [c2] at k3
  cases hx : (books (U ++ T.map (sh d)) (lastL (U ++ T.map (sh d))) G b1 ⟨U.length, none⟩).2.bad with
  | none => rfl
  | some _ => rw [hx] at k3; cases k3
end
end L15
end Go.Proofs.YtaeglmgpoboihaaGreatDoor
/- The document's Parse of a file of rules, walked. gen_parv.py writes it. -/
namespace Go.Proofs.YtaeglmgpoboihaaGreatDoor
open Go.ChangeShapes Go.WideShapes Go.ChangeAt Go.RowKit K L15 S3
open L14 (Tk)
set_option linter.unusedVariables false
set_option linter.unusedSimpArgs false

theorem results_cell_row3p {P : Program} {fn : Func} {p u v : Tmp} {ty : TypeId} (h : fn.results = #[.cell p ty, .tmp u, .tmp v]) (tmps : Array Value) (w : World) (g : Nat) (t : TypeId) (cs : Array Value) (fr : Nat × Nat) (d : TypeDesc)
    (hp : tmps.getD p undef = .pointer (some ⟨g, 0, none⟩)) (hg : w.heap[g]? = some (.cells cs t fr))
    (hu : P.underlying ty = some d) (hd : (match d with | .struct _ | .array _ _ => true | _ => false) = true) (hi : (P.info? ty).map (·.size) = some cs.size) :
    (results fn tmps).run P w = .ok (.tuple #[.agg cs, tmps.getD u undef, tmps.getD v undef]) w := by
  have hp' : tmps[p]?.getD undef = .pointer (some ⟨g, 0, none⟩) := by simpa using hp
  simp [results, h, hp', asAddr, run_loadVar_row w g t ty cs fr d hg hu hd hi]
theorem below_dq {B : Nat} {a b : World} (h : Below B a b) : Below B a b.drew := ⟨h.os, h.tape, h.output, h.size, h.block⟩
/-- What a file is: why it is wrong, where; its book. -/
def paE (s : List UInt8) : Nat := if spE s ≠ 0 then spE s else match (parseT (spL s)).2 with | some _ => 150 | none => 0
def paN (s : List UInt8) : Nat := if spE s ≠ 0 then spN s else (parseT (spL s)).2.getD 0
def paB (s : List UInt8) : Bk := if spE s ≠ 0 then noBk else match (parseT (spL s)).2 with | some _ => noBk | none => (parseT (spL s)).1
/-- A value that reads as a book. -/
def BkV (w : World) (v : Value) (b : Bk) : Prop :=
  ∃ ta tc ra rc wa wc rt rr, v = .agg #[.slice ta b.tb.length tc, .slice ra b.ru.length rc, .slice wa b.wt.length wc] ∧ RdRw w 34 4 ta rt ∧ TbsR w rt b.tb ∧ RdRw w 38 8 ra rr ∧ RusR w rr b.ru ∧ RdRw w 40 10 wa (b.wt.map wtRow)
theorem BkV.none (w : World) : BkV w (.agg #[.slice none 0 0, .slice none 0 0, .slice none 0 0]) noBk := ⟨.none, 0, .none, 0, .none, 0, [], [], rfl, .inl rfl, trivial, .inl rfl, trivial, .inl rfl⟩
theorem rdk_at {w : World} {g o : Nat} {T : List Tk} (h : RdK w (some ⟨g, o, none⟩) T) {i : Nat} (hi : i < T.length) : w.cell? ⟨g, o + i * 3 + 2, none⟩ = some (.int .i64 ((T.getD i noT).l : Nat)) := by
  obtain ⟨g', o', e, _, _, _, c⟩ := h.at hi
  injection e with e
  injection e with e1 e2
  subst e1 e2
  exact c
theorem last_at (T : List Tk) (h : 0 < T.length) : (T.getD (T.length - 1) noT).l = lastL T := by
  unfold lastL
  rw [List.getLast?_eq_getElem?, List.getElem?_eq_getElem (by omega)]
  simp [List.getD, show T.length - 1 < T.length by omega]
theorem row3 {w : World} {b : Nat} {T : TypeId} {a0 a1 a2 : Value} (h : w.heap[b]? = some (.cells #[a0, a1, a2] T (0, 0))) (v0 v1 v2 : Value) :
    (((w.setCell ⟨b, 0, none⟩ v0).setCell ⟨b, 1, none⟩ v1).setCell ⟨b, 2, none⟩ v2).heap[b]? = some (.cells #[v0, v1, v2] T (0, 0)) :=
  row_to (B := #[v0, v1, v2]) (rowSet (row_to (B := #[v0, v1, a2]) (rowSet (row_to (B := #[v0, a1, a2]) (rowSet h 0 v0) rfl) 1 v1) rfl) 2 v2) rfl
theorem below3b {w w1 : World} {b : Nat} (h : Below w.heap.size w w1) (hb : w.heap.size ≤ b) (v0 v1 v2 : Value) : Below w.heap.size w (((w1.setCell ⟨b, 0, none⟩ v0).setCell ⟨b, 1, none⟩ v1).setCell ⟨b, 2, none⟩ v2) := ((h.setCell hb v0).setCell hb v1).setCell hb v2
theorem bkv3 {w : World} {b : Nat} {a0 a1 a2 : Value} (h : w.heap[b]? = some (.cells #[a0, a1, a2] 27 (0, 0))) (v0 v1 v2 : Value) {x : Value} {k : Bk} (hk : BkV w x k) : BkV (((w.setCell ⟨b, 0, none⟩ v0).setCell ⟨b, 1, none⟩ v1).setCell ⟨b, 2, none⟩ v2) x k := by
  obtain ⟨ta, tc, ra, rc, wa, wc, rt, rr, e, h1, h2, h3, h4, h5⟩ := hk
  have r0 := rowSet h 0 v0
  have r1 := rowSet r0 1 v1
  exact ⟨ta, tc, ra, rc, wa, wc, rt, rr, e, ((h1.set h (by decide) 0 v0).set r0 (by decide) 1 v1).set r1 (by decide) 2 v2, ((h2.set h (by decide) 0 v0).set r0 (by decide) 1 v1).set r1 (by decide) 2 v2, ((h3.set h (by decide) 0 v0).set r0 (by decide) 1 v1).set r1 (by decide) 2 v2, ((h4.set h (by decide) 0 v0).set r0 (by decide) 1 v1).set r1 (by decide) 2 v2, ((h5.set h (by decide) 0 v0).set r0 (by decide) 1 v1).set r1 (by decide) 2 v2⟩
theorem bkv_drew {w : World} {x : Value} {k : Bk} (h : BkV w x k) : BkV w.drew x k := by
  have b : Below w.heap.size w w.drew := ⟨rfl, rfl, rfl, Nat.le_refl _, fun _ _ => rfl⟩
  obtain ⟨ta, tc, ra, rc, wa, wc, rt, rr, e, h1, h2, h3, h4, h5⟩ := h
  exact ⟨ta, tc, ra, rc, wa, wc, rt, rr, e, h1.below b, h2.below b, h3.below b, h4.below b, h5.below b⟩
end Go.Proofs.YtaeglmgpoboihaaGreatDoor
