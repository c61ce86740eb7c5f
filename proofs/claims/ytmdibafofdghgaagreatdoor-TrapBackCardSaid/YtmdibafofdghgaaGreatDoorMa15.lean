/- Texts on the program and on the document, joined: OidS, OidT, Tab. -/
import Derived.Test.YtmdibafofdghgaaGreatDoorMa10
import Derived.Lib.Split
import Derived.Lib.ParseIntB
import Derived.Test.YtmdibafofdghgaaGreatDoorMa11
import Derived.BigQuiet
import Derived.Deep.QuietTactic
import Derived.Test.YtmdibafofdghgaaGreatDoorMa01
import Derived.Lib.LaidTab
import Derived.OpenShut
import Derived.MakeChecks
import Derived.Lay
/- A text cut at its points, and numbers told by a text: plain mathematics, of no program. -/
namespace Go.Proofs.YtmdibafofdghgaaGreatDoor
open K
namespace O6

/-! ### A text cut at its points -/
theorem idx_none : ∀ (l : List UInt8), (∀ c ∈ l, c ≠ 46) → Lib.index l [46] = -1
  | [], _ => rfl
  | c :: r, h => by
    have h1 := idx_none r (fun x hx => h x (List.mem_cons_of_mem _ hx))
    have h2 : ([46] : List UInt8).isPrefixOf (c :: r) = false := by
      have := h c (by simp)
      simp [List.isPrefixOf]
      exact fun e => this e.symm
    unfold Lib.index
    rw [h2, h1]; rfl
theorem idx_some : ∀ (a r : List UInt8), (∀ c ∈ a, c ≠ 46) → Lib.index (a ++ 46 :: r) [46] = a.length
  | [], r, _ => by
    show Lib.index (46 :: r) [46] = _
    unfold Lib.index
    simp [List.isPrefixOf]
  | c :: a, r, h => by
    have h1 := idx_some a r (fun x hx => h x (List.mem_cons_of_mem _ hx))
    have h2 : ([46] : List UInt8).isPrefixOf (c :: (a ++ 46 :: r)) = false := by
      have := h c (by simp)
      simp [List.isPrefixOf]
      exact fun e => this e.symm
    show Lib.index (c :: (a ++ 46 :: r)) [46] = _
    unfold Lib.index
    rw [h2, h1]
    simp
theorem spk_none (k : Nat) (l : List UInt8) (h : ∀ c ∈ l, c ≠ 46) : Lib.splitK [46] 0 k l = [l] := by
  cases k with
  | zero => rfl
  | succ k => unfold Lib.splitK; rw [idx_none l h]; rfl
theorem spk_some (k : Nat) (a r : List UInt8) (h : ∀ c ∈ a, c ≠ 46) : Lib.splitK [46] 0 (k + 1) (a ++ 46 :: r) = a :: Lib.splitK [46] 0 k r := by
  have e : ¬ ((Lib.index (a ++ 46 :: r) [46] == -1) = true) := by rw [idx_some a r h, beq_iff_eq]; omega
  show (if (Lib.index (a ++ 46 :: r) [46] == -1) = true then [a ++ 46 :: r] else (a ++ 46 :: r).take ((Lib.index (a ++ 46 :: r) [46]).toNat + 0) :: Lib.splitK [46] 0 k ((a ++ 46 :: r).drop ((Lib.index (a ++ 46 :: r) [46]).toNat + 1))) = _
  rw [if_neg e, idx_some a r h]
  have e1 : (a ++ 46 :: r).take ((a.length : Int).toNat + 0) = a := by simp
  have e2 : (a ++ 46 :: r).drop ((a.length : Int).toNat + 1) = r := by simp
  rw [e1, e2]
/-- Every text has no point, or a first one. -/
theorem dot_or : ∀ l : List UInt8, (∀ c ∈ l, c ≠ 46) ∨ ∃ a r, l = a ++ 46 :: r ∧ ∀ c ∈ a, c ≠ 46
  | [] => .inl (fun c h => by cases h)
  | c :: l => by
    by_cases e : c = 46
    · exact .inr ⟨[], l, by rw [e]; rfl, fun c h => by cases h⟩
    · rcases dot_or l with h | ⟨a, r, h1, h2⟩
      · refine .inl (fun x hx => ?_)
        rcases List.mem_cons.1 hx with h3 | h3
        · rw [h3]; exact e
        · exact h x h3
      · refine .inr ⟨c :: a, r, by rw [h1]; rfl, fun x hx => ?_⟩
        rcases List.mem_cons.1 hx with h3 | h3
        · rw [h3]; exact e
        · exact h2 x h3
/-- Texts with a point between each two. -/
def jn : List (List UInt8) → List UInt8
  | [] => []
  | [a] => a
  | a :: b :: r => a ++ 46 :: jn (b :: r)
theorem spk_ne : ∀ (k : Nat) (l : List UInt8), ∃ a r, Lib.splitK [46] 0 k l = a :: r
  | 0, l => ⟨l, [], rfl⟩
  | k + 1, l => by
    rcases dot_or l with h | ⟨a, r, rfl, h⟩
    · exact ⟨l, [], spk_none _ _ h⟩
    · exact ⟨_, _, spk_some k a r h⟩
theorem jn_spk : ∀ (k : Nat) (l : List UInt8), jn (Lib.splitK [46] 0 k l) = l
  | 0, l => rfl
  | k + 1, l => by
    rcases dot_or l with h | ⟨a, r, rfl, h⟩
    · rw [spk_none _ _ h]; rfl
    · rw [spk_some k a r h]
      have ih := jn_spk k r
      obtain ⟨x, y, e⟩ := spk_ne k r
      rw [e] at ih ⊢
      show a ++ 46 :: jn (x :: y) = _
      rw [ih]
theorem spk_jn : ∀ (ws : List (List UInt8)) (k : Nat), ws ≠ [] → ws.length ≤ k + 1 → (∀ w ∈ ws, ∀ c ∈ w, c ≠ 46) → Lib.splitK [46] 0 k (jn ws) = ws
  | [], _, h, _, _ => absurd rfl h
  | [a], k, _, _, h => spk_none k a (h a (by simp))
  | a :: b :: r, 0, _, h, _ => by simp at h
  | a :: b :: r, k + 1, _, hl, h => by
    show Lib.splitK [46] 0 (k + 1) (a ++ 46 :: jn (b :: r)) = _
    rw [spk_some k a _ (h a (by simp)), spk_jn (b :: r) k (by simp) (by simp at hl ⊢; omega) (fun w hw => h w (List.mem_cons_of_mem _ hw))]
theorem put_jn : ∀ l : List Nat, put l = jn (l.map nm)
  | [] => rfl
  | [a] => rfl
  | a :: b :: r => by
    show nm a ++ (46 :: put (b :: r)) = nm a ++ 46 :: jn ((b :: r).map nm)
    rw [put_jn (b :: r)]
theorem nm_nodot (n : Nat) : ∀ c ∈ nm n, c ≠ 46 := by
  intro c hc e
  subst e
  have := List.all_eq_true.1 (dg_digits 20 n) _ hc
  revert this; decide
theorem jn_dots : ∀ ws : List (List UInt8), ws ≠ [] → ws.length ≤ (jn ws).length + 1
  | [], h => absurd rfl h
  | [a], _ => by simp
  | a :: b :: r, _ => by
    have h1 := jn_dots (b :: r) (by simp)
    show _ ≤ (a ++ 46 :: jn (b :: r)).length + 1
    simp only [List.length_append, List.length_cons] at h1 ⊢
    omega

/-! ### A number told by a text -/
theorem pum_ok : ∀ (l : List UInt8) (acc : Nat), acc ≤ 4294967295 → l.all isDg = true → vd acc l ≤ 4294967295 → Lib.parseUintM 4294967295 acc l = .ok (vd acc l)
  | [], acc, _, _, _ => rfl
  | c :: r, acc, ha, hd, hv => by
    rw [List.all_cons, Bool.and_eq_true] at hd
    have hc := hd.1
    unfold isDg at hc
    rw [Bool.and_eq_true, decide_eq_true_eq, decide_eq_true_eq] at hc
    have hm : acc * 10 + (c.toNat - 48) ≤ vd (acc * 10 + (c.toNat - 48)) r := vd_ge r _
    have hv2 : vd (acc * 10 + (c.toNat - 48)) r ≤ 4294967295 := hv
    unfold Lib.parseUintM
    rw [if_pos hc, if_neg (by omega), if_neg (by omega)]
    exact pum_ok r _ (by omega) hd.2 hv
where
  vd_ge : ∀ (l : List UInt8) (n : Nat), n ≤ vd n l
    | [], n => Nat.le_refl n
    | c :: r, n => Nat.le_trans (by omega : n ≤ n * 10 + (c.toNat - 48)) (vd_ge r _)
theorem pum_inv : ∀ (l : List UInt8) (acc v : Nat), acc ≤ 4294967295 → Lib.parseUintM 4294967295 acc l = .ok v → l.all isDg = true ∧ vd acc l = v ∧ v ≤ 4294967295
  | [], acc, v, ha, h => by
    have e : acc = v := by
      have h' : (Lib.NumEnd.ok acc : Lib.NumEnd Nat) = .ok v := h
      injection h'
    exact ⟨rfl, e, by omega⟩
  | c :: r, acc, v, ha, h => by
    unfold Lib.parseUintM at h
    by_cases hc : 48 ≤ c.toNat ∧ c.toNat ≤ 57
    · rw [if_pos hc] at h
      by_cases h1 : 1844674407370955162 ≤ acc
      · rw [if_pos h1] at h; cases h
      · rw [if_neg h1] at h
        by_cases h2 : 4294967295 < acc * 10 + (c.toNat - 48)
        · rw [if_pos h2] at h; cases h
        · rw [if_neg h2] at h
          obtain ⟨h3, h4, h5⟩ := pum_inv r _ v (by omega) h
          refine ⟨?_, h4, h5⟩
          rw [List.all_cons, h3, Bool.and_true]
          unfold isDg
          rw [decide_eq_true hc.1, decide_eq_true hc.2]; rfl
    · rw [if_neg hc] at h; cases h
theorem vd_pow : ∀ (l : List UInt8) (n : Nat), n * 10 ^ l.length ≤ vd n l
  | [], n => by simp [vd]
  | c :: r, n => by
    have h := vd_pow r (n * 10 + (c.toNat - 48))
    show n * 10 ^ (r.length + 1) ≤ vd (n * 10 + (c.toNat - 48)) r
    refine Nat.le_trans ?_ h
    rw [Nat.pow_succ, Nat.mul_comm (10 ^ r.length) 10, ← Nat.mul_assoc]
    exact Nat.mul_le_mul_right _ (by omega)
/-- A text of digits without a 0 ahead is that of its number. -/
def Cn (l : List UInt8) : Prop := l ≠ [] ∧ l.all isDg = true ∧ (byt l 0 ≠ 48 ∨ l.length = 1)
theorem snoc_of (l : List UInt8) (h : l ≠ []) : ∃ x c, l = x ++ [c] :=
  ⟨l.take (l.length - 1), l[l.length - 1]'(by have := List.length_pos_iff.2 h; omega), by
    have hp := List.length_pos_iff.2 h
    have := List.take_append_getElem (l := l) (i := l.length - 1) (by omega)
    rw [this, List.take_of_length_le (by omega)]⟩
theorem dg_vd : ∀ (f : Nat) (l : List UInt8), Cn l → l.length ≤ f → dg f (vd 0 l) = l
  | 0, l, h, hl => by
    have : l = [] := List.length_eq_zero_iff.1 (by omega)
    exact absurd this h.1
  | f + 1, l, h, hl => by
    obtain ⟨h1, h2, h3⟩ := h
    obtain ⟨x, c, rfl⟩ : ∃ x c, l = x ++ [c] := snoc_of l h1
    rw [List.all_append, Bool.and_eq_true] at h2
    have hc : isDg c = true := by have := h2.2; simpa using this
    unfold isDg at hc
    rw [Bool.and_eq_true, decide_eq_true_eq, decide_eq_true_eq] at hc
    rw [vd_app, vd_one]
    by_cases hx : x = []
    · subst hx
      show dg (f + 1) (0 * 10 + (c.toNat - 48)) = [c]
      rw [dg_small _ _ (by omega)]
      congr 1
      have : 48 + (0 * 10 + (c.toNat - 48)) = c.toNat := by omega
      rw [this]
      exact P1b8 c
    · have hx1 : 1 ≤ x.length := by
        rcases Nat.eq_zero_or_pos x.length with h0 | h0
        · exact absurd (List.length_eq_zero_iff.1 h0) hx
        · exact h0
      have hh : byt x 0 ≠ 48 := by
        rcases h3 with h3 | h3
        · rw [show byt (x ++ [c]) 0 = byt x 0 by
            cases x with
            | nil => exact absurd rfl hx
            | cons a t => rfl] at h3
          exact h3
        · rw [List.length_append, List.length_singleton] at h3; omega
      have hge : 1 ≤ vd 0 x := by
        cases x with
        | nil => exact absurd rfl hx
        | cons a t =>
          have ha := h2.1
          rw [List.all_cons, Bool.and_eq_true] at ha
          have ha1 := ha.1
          unfold isDg at ha1
          rw [Bool.and_eq_true, decide_eq_true_eq, decide_eq_true_eq] at ha1
          have hn : a.toNat ≠ 48 := hh
          have hp := vd_pow t (0 * 10 + (a.toNat - 48))
          have : 1 ≤ 10 ^ t.length := Nat.one_le_pow _ _ (by omega)
          have : 1 * 1 ≤ (0 * 10 + (a.toNat - 48)) * 10 ^ t.length := Nat.mul_le_mul (by omega) this
          show 1 ≤ vd (0 * 10 + (a.toNat - 48)) t
          omega
      rw [dg_big _ _ (by omega)]
      have e1 : (vd 0 x * 10 + (c.toNat - 48)) / 10 = vd 0 x := by omega
      have e2 : (vd 0 x * 10 + (c.toNat - 48)) % 10 = c.toNat - 48 := by omega
      rw [e1, e2, dg_vd f x ⟨hx, h2.1, .inl hh⟩ (by simp at hl; omega)]
      congr 2
      have : 48 + (c.toNat - 48) = c.toNat := by omega
      rw [this]
      exact P1b8 c
where
  P1b8 (c : UInt8) : b8 c.toNat = c := by unfold b8; simp
/-- The number that a text tells, if it is one's. -/
def nr (l : List UInt8) : Option Nat :=
  match Lib.parseUintB 32 l with
  | .ok v => if byt l 0 = 48 ∧ l ≠ [48] then none else some v
  | _ => none
theorem dg_head : ∀ (f n : Nat), 1 ≤ n → n < 10 ^ f → byt (dg f n) 0 ≠ 48
  | 0, n, h1, h2 => by simp at h2; omega
  | f + 1, n, h1, h2 => by
    by_cases hn : n < 10
    · rw [dg_small _ n hn]
      show (b8 (48 + n)).toNat ≠ 48
      rw [b8_toNat _ (by omega)]; omega
    · rw [dg_big _ n (by omega)]
      have ih := dg_head f (n / 10) (by omega) (by rw [Nat.pow_succ] at h2; omega)
      cases hd : dg f (n / 10) with
      | nil =>
        exfalso
        cases f with
        | zero => simp at h2; omega
        | succ f =>
          by_cases h10 : n / 10 < 10
          · rw [dg_small _ _ h10] at hd; cases hd
          · rw [dg_big _ _ (by omega)] at hd; simp at hd
      | cons a t => rw [hd] at ih; exact ih
theorem nr_nm (v : Nat) (hv : v ≤ 4294967295) : nr (nm v) = some v := by
  unfold nr Lib.parseUintB
  have hvd := vd_nm v (by omega)
  rw [if_neg (nm_ne v), show (2 ^ 32 - 1 : Nat) = 4294967295 from rfl, pum_ok (nm v) 0 (by omega) (dg_digits 20 v) (by omega), hvd]
  show (if byt (nm v) 0 = 48 ∧ nm v ≠ [48] then none else some v) = some v
  rw [if_neg]
  rintro ⟨h1, h2⟩
  rcases Nat.eq_zero_or_pos v with h0 | h0
  · subst h0; exact h2 (by decide)
  · exact dg_head 20 v h0 (by omega) h1
theorem nr_inv {l : List UInt8} {v : Nat} (h : nr l = some v) : l = nm v ∧ v ≤ 4294967295 := by
  unfold nr at h
  cases hp : Lib.parseUintB 32 l with
  | ok u =>
    rw [hp] at h
    have h' : (if byt l 0 = 48 ∧ l ≠ [48] then none else some u) = some v := h
    by_cases hc : byt l 0 = 48 ∧ l ≠ [48]
    · rw [if_pos hc] at h'; cases h'
    · rw [if_neg hc] at h'
      obtain rfl := Option.some.inj h'
      unfold Lib.parseUintB at hp
      by_cases hl : l = []
      · rw [if_pos hl] at hp; cases hp
      · rw [if_neg hl, show (2 ^ 32 - 1 : Nat) = 4294967295 from rfl] at hp
        obtain ⟨h1, h2, h3⟩ := pum_inv l 0 u (by omega) hp
        refine ⟨?_, h3⟩
        have hcn : byt l 0 ≠ 48 ∨ l.length = 1 := by
          by_cases h48 : byt l 0 = 48
          · right
            have : l = [48] := Classical.byContradiction fun e => hc ⟨h48, e⟩
            rw [this]; rfl
          · exact .inl h48
        have hlen : l.length ≤ 20 := by
          rcases hcn with h4 | h4
          · cases l with
            | nil => exact absurd rfl hl
            | cons a t =>
              rw [List.all_cons, Bool.and_eq_true] at h1
              have ha1 := h1.1
              unfold isDg at ha1
              rw [Bool.and_eq_true, decide_eq_true_eq, decide_eq_true_eq] at ha1
              have hn : a.toNat ≠ 48 := h4
              have hp2 := vd_pow t (0 * 10 + (a.toNat - 48))
              have h5 : vd (0 * 10 + (a.toNat - 48)) t = u := h2
              have h6 : 1 * 10 ^ t.length ≤ (0 * 10 + (a.toNat - 48)) * 10 ^ t.length := Nat.mul_le_mul_right _ (by omega)
              rw [List.length_cons]
              rcases Nat.lt_or_ge 10 t.length with h7 | h7
              · have h8 : 10 ^ 11 ≤ 10 ^ t.length := Nat.pow_le_pow_right (by omega) h7
                omega
              · omega
          · omega
        have := dg_vd 20 l ⟨hl, h1, hcn⟩ hlen
        rw [h2] at this
        exact this.symm
  | _ => rw [hp] at h; cases h

/-! ### The program's way to a text's arcs -/
def nrs : List (List UInt8) → Option (List Nat)
  | [] => some []
  | a :: r => match nr a with
    | none => none
    | some v => match nrs r with
      | none => none
      | some l => some (v :: l)
theorem nrs_nm : ∀ l : List Nat, (∀ a ∈ l, a ≤ 4294967295) → nrs (l.map nm) = some l
  | [], _ => rfl
  | a :: l, h => by
    show (match nr (nm a) with | none => none | some v => match nrs (l.map nm) with | none => none | some l => some (v :: l)) = _
    rw [nr_nm a (h a (by simp)), nrs_nm l (fun x hx => h x (List.mem_cons_of_mem _ hx))]
theorem nrs_inv : ∀ (ws : List (List UInt8)) (l : List Nat), nrs ws = some l → ws = l.map nm ∧ ∀ a ∈ l, a ≤ 4294967295
  | [], l, h => by
    have h' : (some [] : Option (List Nat)) = some l := h
    obtain rfl := Option.some.inj h'
    exact ⟨rfl, fun a ha => by cases ha⟩
  | w :: r, l, h => by
    have h' : (match nr w with | none => none | some v => match nrs r with | none => none | some l => some (v :: l)) = some l := h
    cases h1 : nr w with
    | none => rw [h1] at h'; cases h'
    | some v =>
      rw [h1] at h'
      cases h2 : nrs r with
      | none => rw [h2] at h'; cases h'
      | some l2 =>
        rw [h2] at h'
        obtain rfl := Option.some.inj h'
        obtain ⟨e1, e2⟩ := nr_inv h1
        obtain ⟨e3, e4⟩ := nrs_inv r l2 h2
        refine ⟨by rw [e3, e1]; rfl, fun a ha => ?_⟩
        rcases List.mem_cons.1 ha with h5 | h5
        · rw [h5]; exact e2
        · exact e4 a h5
theorem nrs_bad : ∀ {ws : List (List UInt8)} {w : List UInt8}, w ∈ ws → nr w = none → nrs ws = none
  | [], _, h, _ => by cases h
  | a :: r, w, h, hn => by
    show (match nr a with | none => none | some v => match nrs r with | none => none | some l => some (v :: l)) = none
    rcases List.mem_cons.1 h with h1 | h1
    · rw [← h1, hn]
    · cases nr a with
      | none => rfl
      | some v => rw [nrs_bad h1 hn]
theorem nrs_good : ∀ {ws : List (List UInt8)} {l : List Nat}, ws.length = l.length → (∀ i, i < l.length → nr (ws.getD i []) = some (l.getD i 0)) → nrs ws = some l
  | [], [], _, _ => rfl
  | [], _ :: _, h, _ => by simp at h
  | _ :: _, [], h, _ => by simp at h
  | a :: r, v :: l, h, k => by
    have h1 : nr a = some v := k 0 (by simp)
    have h2 : nrs r = some l := nrs_good (by simpa using h) (fun i hi => k (i + 1) (by simp; omega))
    show (match nr a with | none => none | some v => match nrs r with | none => none | some l => some (v :: l)) = _
    rw [h1, h2]
/-- The pieces of a text: at most 129. -/
def pcs (s : List UInt8) : List (List UInt8) := Lib.splitK [46] 0 (min 129 (s.length + 1) - 1) s
theorem arcs_pcs (s : List UInt8) : arcs s = match nrs (pcs s) with
    | none => none
    | some l => if isArcs l then some l else none := by
  cases hn : nrs (pcs s) with
  | none =>
    cases ha : arcs s with
    | none => rfl
    | some l =>
      exfalso
      obtain ⟨h1, h2⟩ := (arcs_iff s l).1 ha
      have hl := isArcs_len h1
      have hs : jn (l.map nm) = s := by rw [← put_jn, h2]
      have hd := jn_dots (l.map nm) (by intro e; exact isArcs_ne h1 (List.map_eq_nil_iff.1 e))
      rw [hs, List.length_map] at hd
      have hp : pcs s = l.map nm := by
        have := spk_jn (l.map nm) (min 129 (s.length + 1) - 1) (by intro e; exact isArcs_ne h1 (List.map_eq_nil_iff.1 e)) (by rw [List.length_map]; omega) (fun w hw c hc => by
          obtain ⟨a, _, rfl⟩ := List.mem_map.1 hw
          exact nm_nodot a c hc)
        rw [hs] at this
        exact this
      rw [hp, nrs_nm l (isArcs_le h1)] at hn
      cases hn
  | some l =>
    obtain ⟨h1, _⟩ := nrs_inv _ _ hn
    have hs : put l = s := by rw [put_jn, ← h1]; exact jn_spk _ s
    show arcs s = if isArcs l then some l else none
    by_cases hc : isArcs l = true
    · rw [if_pos hc]; exact (arcs_iff s l).2 ⟨hc, hs⟩
    · rw [if_neg hc]
      cases ha : arcs s with
      | none => rfl
      | some m =>
        exfalso
        obtain ⟨h3, h4⟩ := (arcs_iff s m).1 ha
        have hl := isArcs_len h3
        have hs2 : jn (m.map nm) = s := by rw [← put_jn, h4]
        have hd := jn_dots (m.map nm) (by intro e; exact isArcs_ne h3 (List.map_eq_nil_iff.1 e))
        rw [hs2, List.length_map] at hd
        have hp := spk_jn (m.map nm) (min 129 (s.length + 1) - 1) (by intro e; exact isArcs_ne h3 (List.map_eq_nil_iff.1 e)) (by rw [List.length_map]; omega) (fun w hw c hc => by
          obtain ⟨a, _, rfl⟩ := List.mem_map.1 hw
          exact nm_nodot a c hc)
        rw [hs2] at hp
        have hn2 := hn
        unfold pcs at hn2
        rw [hp, nrs_nm m (isArcs_le h3)] at hn2
        obtain rfl := Option.some.inj hn2
        exact hc h3
theorem pcs_len (s : List UInt8) : 1 ≤ (pcs s).length ∧ (pcs s).length ≤ 129 := by
  constructor
  · obtain ⟨a, r, e⟩ := spk_ne (min 129 (s.length + 1) - 1) s
    unfold pcs
    rw [e, List.length_cons]; omega
  · have h : ∀ (k : Nat) (l : List UInt8), (Lib.splitK [46] 0 k l).length ≤ k + 1 := by
      intro k
      induction k with
      | zero => intro l; exact Nat.le_refl 1
      | succ k ih =>
        intro l
        rcases dot_or l with h | ⟨a, r, rfl, h⟩
        · rw [spk_none _ _ h]; simp
        · rw [spk_some k a r h, List.length_cons]
          have := ih r; omega
    have := h (min 129 (s.length + 1) - 1) s
    unfold pcs; omega
end O6
end Go.Proofs.YtmdibafofdghgaaGreatDoor
/- oid's isArc, mostSecond, areArcs, walked. -/
namespace Go.Proofs.YtmdibafofdghgaaGreatDoor
open Go.ChangeShapes Go.WideShapes Go.ChangeAt Go.RowKit K O6
set_option linter.unusedVariables false

theorem isArc_walk (x : Int) (w : World) : Calls Tryz.prog 126 #[.int .i64 x] w fun e w' => e = .returned (.bool (inR x)) ∧ w = w' := by
  have hcs : (0 ≤ x ∧ x ≤ 4294967295) ∨ x < 0 ∨ (0 ≤ x ∧ 4294967295 < x) := by omega
  rcases hcs with ⟨c0, c1⟩ | c0 | ⟨c0, c1⟩
  · have HF := Lib.hid (show inR x = true by unfold inR; rw [decide_eq_true c0, decide_eq_true c1]; rfl)
    go_enter Tryz.func126, Tryz.ntmps126
    go_wp2
    go_ret
    rw [HF.out]
    exact ⟨rfl, rfl⟩
  · have HF := Lib.hid (show inR x = false by unfold inR; rw [decide_eq_false (by omega : ¬ 0 ≤ x), Bool.false_and])
    go_enter Tryz.func126, Tryz.ntmps126
    go_wp2
    go_ret
    rw [HF.out]
    exact ⟨rfl, rfl⟩
  · have HF := Lib.hid (show inR x = false by unfold inR; rw [decide_eq_false (by omega : ¬ x ≤ 4294967295), Bool.and_false])
    have c2 : ¬ x ≤ 4294967295 := by omega
    go_enter Tryz.func126, Tryz.ntmps126
    go_wp2
    go_ret
    rw [HF.out]
    exact ⟨by simp, rfl⟩
def mSec (x : Int) : Int := if x = 2 then 4294967215 else 39
theorem mostSecond_walk (x : Int) (w : World) : Calls Tryz.prog 127 #[.int .i64 x] w fun e w' => e = .returned (.int .i64 (mSec x)) ∧ w = w' := by
  by_cases h : x = 2
  · subst h
    have HF := Lib.hid (show mSec 2 = 4294967215 from rfl)
    go_enter Tryz.func127, Tryz.ntmps127
    go_wp2
    go_ret
    rw [HF.out]
    exact ⟨rfl, rfl⟩
  · have HF := Lib.hid (show mSec x = 39 from if_neg h)
    have hb : (x == 2) = false := by rw [beq_eq_false_iff_ne]; exact h
    go_enter Tryz.func127, Tryz.ntmps127
    go_wp2
    go_ret
    rw [HF.out]
    exact ⟨rfl, rfl⟩
def IsRelW (n : Nat) (f : Nat → Int) (w : World) (g : Nat) (v : Value) (wr : World) : Prop :=
  ∃ i, i + g = n ∧ v = .int .i64 (i : Nat) ∧ (∀ j, j < i → inR (f j) = true) ∧ wr = w
set_option maxRecDepth 100000 in
set_option maxHeartbeats 1000000 in
theorem areArcs_walk (ao : Option Addr) (n cap : Nat) (f : Nat → Int) (hn : n ≤ 140737488351232) (w : World) (h : RdZ w ao n f) :
    Calls Tryz.prog 112 #[.slice ao n cap] w fun e w' => e = .returned (.bool (isZ n f)) ∧ ∃ m, w' = w.drewN m := by
  by_cases hl : n < 2 ∨ (2 ≤ n ∧ 128 < n)
  · have e : isZ n f = false := by
      unfold isZ
      rcases hl with h1 | ⟨_, h1⟩
      · rw [decide_eq_false (by omega), Bool.false_and]
      · rw [decide_eq_false (by omega : ¬ n ≤ 128), Bool.false_and, Bool.and_false]
    rw [e]
    clear e
    rcases hl with h1 | ⟨h0, h1⟩
    · have h1' : (n : Int) < 2 := by omega
      clear h h1
      go_enter Tryz.func112, Tryz.ntmps112
      go_wp2
      go_ret
      exact ⟨rfl, 0, rfl⟩
    · have h1' : (128 : Int) < n := by omega
      have h0' : (2 : Int) ≤ n := by omega
      clear h h1 h0
      go_enter Tryz.func112, Tryz.ntmps112
      go_wp2
      go_ret
      exact ⟨rfl, 0, rfl⟩
  · have hn2 : 2 ≤ n := by omega
    have hn3 : n ≤ 128 := by omega
    have hn2' : (2 : Int) ≤ n := by omega
    have hn3' : (n : Int) ≤ 128 := by omega
    rcases h with h | ⟨b, off, rfl, hbk, hc⟩
    · omega
    · have HC := Lib.hid hc
      clear hl hc
      go_enter Tryz.func112, Tryz.ntmps112
      go_wp2
      go_loopg [15] n (fun g v15 wr => IsRelW n f w g v15 wr)
      case atStart => exact ⟨0, by omega, rfl, fun j hj => by omega, rfl⟩
      case round =>
        obtain ⟨i, hig, rfl, hall, rfl⟩ := hrel
        cases gk with
        | succ g =>
          have hin : i < n := by omega
          have hcell := HC.out i hin
          have HAL := Lib.hid hall
          have HNO := Lib.hid (fun h => @isZ_no n f i hin h)
          clear hall
          have HI := Lib.hid (fun x w1 => isArc_walk x w1)
          cases hx : inR (f i)
          · have HF := Lib.hid (HNO.out hx)
            have HX := Lib.hid hx
            clear hx
            generalize f i = x at *
            go_wp2_with (go_at_call 126; refine (HI.out x _).mono ?_; rw [HX.out]; rintro e wz ⟨rfl, rfl⟩)
            go_ret
            rw [HF.out]
            exact ⟨rfl, 0, rfl⟩
          · have HX := Lib.hid hx
            clear hx
            generalize hfx : f i = x at *
            have HFX := Lib.hid hfx
            clear hfx
            go_wp2_with (go_at_call 126; refine (HI.out x _).mono ?_; rw [HX.out]; rintro e wz ⟨rfl, rfl⟩)
            go_roundg g
            case measure => omega
            case rel =>
              refine ⟨i + 1, by omega, by simp, fun j hj => ?_, rfl⟩
              rcases Nat.lt_or_ge j i with h1 | h1
              · exact HAL.out j h1
              · obtain rfl : j = i := by omega
                rw [HFX.out]; exact HX.out
        | zero =>
          obtain rfl : i = n := by omega
          have c0 := HC.out 0 (by omega)
          have c1 := HC.out 1 (by omega)
          rw [Nat.add_zero] at c0
          have hb0 := hall 0 (by omega)
          have hb1 := hall 1 (by omega)
          have e : isZ i f = ((decide (f 0 < 2) && decide (f 1 ≤ 39)) || (f 0 == 2 && decide (f 1 ≤ 4294967215))) := by
            have : (List.range i).all (fun i => inR (f i)) = true := by
              rw [List.all_eq_true]
              intro j hj
              exact hall j (List.mem_range.1 hj)
            unfold isZ; rw [this, decide_eq_true hn2, decide_eq_true hn3]; simp
          have HE := Lib.hid e
          unfold inR at hb0 hb1
          simp only [Bool.and_eq_true, decide_eq_true_eq] at hb0 hb1
          clear e hall hig HC
          generalize f 0 = x at *
          generalize f 1 = y at *
          obtain ⟨x0, x1⟩ := hb0
          obtain ⟨y0, y1⟩ := hb1
          by_cases h2 : x ≤ 2
          · have HZ := Lib.hid (show isZ i f = decide (y ≤ mSec x) by
              rw [HE.out]
              unfold mSec
              by_cases hx2 : x = 2
              · rw [if_pos hx2, decide_eq_false (by omega : ¬ x < 2), beq_iff_eq.2 hx2]; simp
              · rw [if_neg hx2, decide_eq_true (by omega : x < 2), beq_eq_false_iff_ne.2 hx2]; simp)
            have HM := Lib.hid (fun w1 => mostSecond_walk x w1)
            generalize mSec x = z at *
            clear HE
            go_wp2_with fail
            go_quiet (first | (go_at_call 127; refine Calls.quiet_mk (HM.out _)))
            go_wp2
            go_ret
            rw [HZ.out]
            exact ⟨rfl, nq, rfl⟩
          · have HF := Lib.hid (show isZ i f = false by rw [HE.out, decide_eq_false (by omega : ¬ x < 2), beq_eq_false_iff_ne.2 (by omega : x ≠ 2)]; rfl)
            have HM := Lib.hid (fun w1 => mostSecond_walk x w1)
            generalize mSec x = z at *
            have h3 : 2 < x := by omega
            have h4 : (x ≤ 2) = False := eq_false h2
            clear HE h2
            go_wp2_with fail
            go_quiet (first | (go_at_call 127; refine Calls.quiet_mk (HM.out _)))
            go_wp2
            go_ret
            rw [HF.out]
            exact ⟨rfl, nq, rfl⟩
end Go.Proofs.YtmdibafofdghgaaGreatDoor
/- From a row's list of tables to the cells of one of them. Of no program. -/
namespace Go.Proofs.YtmdibafofdghgaaGreatDoor
open Go.RowKit
namespace K
theorem tup3 {a b c a' b' c' : Value} (h1 : a = a') (h2 : b = b') (h3 : c = c') : Ending.returned (.tuple #[a, b, c]) = .returned (.tuple #[a', b', c']) := by rw [h1, h2, h3]
theorem tup2 {a b a' b' : Value} (h1 : a = a') (h2 : b = b') : Ending.returned (.tuple #[a, b]) = .returned (.tuple #[a', b']) := by rw [h1, h2]
theorem one {a a' : Value} (h : a = a') : Ending.returned a = .returned a' := by rw [h]
theorem laidVars_at {P : Program} {W : World} : ∀ {L : List (String × DataW Unit)} {ps : List MemPlace}, DataW.LaidVars P W L ps → ∀ {n : String} {d : DataW Unit}, (n, d) ∈ L →
    ∃ g t cs fuel p, P.globalNamed n = some g ∧ (P.globals[g]?).map (·.type) = some t ∧ W.var? P n = some cs ∧ DataW.trod (fun _ => ()) P W 0 (fun _ => true) false fuel t cs.toList = some (d, p)
  | [], _, _, n, d, hm => by cases hm
  | (m, e) :: r, ps, h, n, d, hm => by
    obtain ⟨g, t, cs, fuel, p, q, h1, h2, h3, h4, hr, _⟩ := h
    rcases List.mem_cons.1 hm with h5 | h5
    · cases h5; exact ⟨g, t, cs, fuel, p, h1, h2, h3, h4⟩
    · exact laidVars_at hr h5
/-- One of a row's listed variables: its cells read as what is listed. -/
theorem laid_at {P : Program} {W : World} {L : List (String × DataW Unit)} (h : laidMetH P L W) (hp : (L.all fun x => x.2.handleName?.isNone) = true) {n : String} {d : DataW Unit} (hm : (n, d) ∈ L) {g : Nat} {t : TypeId}
    (hg : P.globalNamed n = some g) (ht : (P.globals[g]?).map (·.type) = some t) :
    ∃ cs fuel p, W.var? P n = some cs ∧ DataW.trod (fun _ => ()) P W 0 (fun _ => true) false fuel t cs.toList = some (d, p) := by
  rw [MakeChecks.laidMetH_plain _ _ _ hp] at h
  obtain ⟨ps, hl, _, _⟩ := h
  obtain ⟨g', t', cs, fuel, p, h1, h2, h3, h4⟩ := laidVars_at hl hm
  obtain rfl := Option.some.inj (hg.symm.trans h1)
  obtain rfl := Option.some.inj (ht.symm.trans h2)
  exact ⟨cs, fuel, p, h3, h4⟩
/-- A table of integers. -/
theorem laid_tab {P : Program} {W : World} {L : List (String × DataW Unit)} (h : laidMetH P L W) (hp : (L.all fun x => x.2.handleName?.isNone) = true) {n : String} {k : IntKind} {zs : List Int} (hm : (n, (Lib.tabData k zs : DataW Unit)) ∈ L)
    {g : Nat} {t e : TypeId} {N : Nat} (hg : P.globalNamed n = some g) (ht : (P.globals[g]?).map (·.type) = some t) (hu : P.underlying t = some (.array N e)) (he : P.underlying e = some (.int k)) (hce : P.cellsOf e = 1) (hct : P.cellsOf t = N) :
    Lib.TabIs P W n k zs := by
  obtain ⟨cs, fuel, p, hv, hd⟩ := laid_at h hp hm hg ht
  unfold Lib.TabIs
  rw [hv, ← Lib.cells_of_tab hu he hce hct hd]
/-- A table stays as long as only newer memory turns. -/
theorem tab_below {P : Program} {w w' : World} {n : String} {k : IntKind} {zs : List Int} (h : Lib.TabIs P w n k zs) (hb : Below w.heap.size w w') : Lib.TabIs P w' n k zs := by
  unfold Lib.TabIs World.var? at *
  cases hg : P.globalNamed n with
  | none => rw [hg] at h; simp at h
  | some g =>
    rw [hg] at h
    simp only [Option.bind_some] at h ⊢
    have hlt : g < w.heap.size := by
      rcases Nat.lt_or_ge g w.heap.size with h' | h'
      · exact h'
      · rw [Array.getElem?_eq_none h'] at h; simp at h
    rw [hb.block g hlt]; exact h
/-- A struct of a text and a number, as it is listed. -/
theorem pair_of {H : Type} {enc : TypeId × Value → H} {P : Program} {w : World} {base : Nat} {sp : Nat → Bool} {held : Bool} {fuel : Nat} {t ts ti : TypeId} {k : IntKind} {fs : Array Field} {cs : List Value} {s : List UInt8} {z : Int} {p : List MemPlace} {f0 f1 : Field}
    (ht : P.underlying t = some (.struct fs)) (h0 : fs[0]? = some f0) (h1 : fs[1]? = some f1) (e0 : f0.type = ts) (e1 : f1.type = ti) (o0 : f0.offset = 0) (o1 : f1.offset = 1) (hts : P.underlying ts = some .string) (hti : P.underlying ti = some (.int k))
    (c0 : P.cellsOf ts = 1) (c1 : P.cellsOf ti = 1) (hc : P.cellsOf t = 2)
    (h : DataW.trod enc P w base sp held fuel t cs = some (.agg [.lit (.string s), .lit (.int k z)], p)) : cs = [.string (bs s), .int k z] := by
  obtain ⟨xs, n, _, hx, hl, hlen, hf⟩ := DataW.trod_struct ht h
  have g0 := hf 0 f0 h0
  have g1 := hf 1 f1 h1
  rw [e0, o0, c0] at g0
  rw [e1, o1, c1] at g1
  rw [hc] at hl
  have hx1 : xs.map (·.1) = [.lit (.string s), .lit (.int k z)] := (DataW.agg.inj (Prod.mk.inj hx).1).symm
  have hxl : xs.length = 2 := by have := congrArg List.length hx1; simpa using this
  rw [List.getElem?_eq_getElem (by omega)] at g0 g1
  obtain ⟨a, ea, ea2, _⟩ := DataW.trod_string hts g0
  obtain ⟨b, eb, eb2, _⟩ := DataW.trod_int hti g1
  have m0 : (xs.map (·.1))[0]? = some (.lit (.string s)) := by rw [hx1]; rfl
  have m1 : (xs.map (·.1))[1]? = some (.lit (.int k z)) := by rw [hx1]; rfl
  rw [List.getElem?_map, List.getElem?_eq_getElem (by omega), ea2] at m0
  rw [List.getElem?_map, List.getElem?_eq_getElem (by omega), eb2] at m1
  simp only [Option.map_some, Option.some.injEq, DataW.lit.injEq, Lit.string.injEq, Lit.int.injEq, true_and] at m0 m1
  match cs, hl with
  | [x, y], _ =>
    simp at ea eb
    subst m0 m1
    rw [ea, eb, bs_of]
theorem pairs_of {H : Type} {enc : TypeId × Value → H} {P : Program} {w : World} {base : Nat} {sp : Nat → Bool} {held : Bool} {fuel : Nat} {t e ts ti : TypeId} {N : Nat} {k : IntKind} {fs : Array Field} {cs : List Value} {zs : List (List UInt8 × Int)} {p : List MemPlace} {f0 f1 : Field}
    (hu : P.underlying t = some (.array N e)) (ht : P.underlying e = some (.struct fs)) (h0 : fs[0]? = some f0) (h1 : fs[1]? = some f1) (e0 : f0.type = ts) (e1 : f1.type = ti) (o0 : f0.offset = 0) (o1 : f1.offset = 1) (hts : P.underlying ts = some .string) (hti : P.underlying ti = some (.int k))
    (c0 : P.cellsOf ts = 1) (c1 : P.cellsOf ti = 1) (hc : P.cellsOf e = 2) (hct : P.cellsOf t = 2 * N)
    (h : DataW.trod enc P w base sp held fuel t cs = some (.agg (zs.map fun z => .agg [.lit (.string z.1), .lit (.int k z.2)]), p)) :
    cs.length = 2 * N ∧ ∀ i z, zs[i]? = some z → (cs.drop (2 * i)).take 2 = [.string (bs z.1), .int k z.2] := by
  obtain ⟨xs, m, _, hx, hl, hlen, hf⟩ := DataW.trod_array hu h
  have hx1 : xs.map (·.1) = zs.map fun z => .agg [.lit (.string z.1), .lit (.int k z.2)] := (DataW.agg.inj (Prod.mk.inj hx).1).symm
  have hzl : zs.length = N := by have := congrArg List.length hx1; simp at this; omega
  refine ⟨by rw [hl, hct], fun i z hz => ?_⟩
  have hi : i < N := by
    have := (List.getElem?_eq_some_iff.1 hz).1; omega
  have hE := hf i hi
  rw [hc, List.getElem?_eq_getElem (by omega), Nat.mul_comm] at hE
  have m0 : (xs.map (·.1))[i]? = some (.agg [.lit (.string z.1), .lit (.int k z.2)]) := by rw [hx1, List.getElem?_map, hz]; rfl
  rw [List.getElem?_map, List.getElem?_eq_getElem (by omega)] at m0
  simp only [Option.map_some, Option.some.injEq] at m0
  have hE2 : DataW.trod enc P w base sp held m e ((cs.drop (2 * i)).take 2) = some (.agg [.lit (.string z.1), .lit (.int k z.2)], (xs[i]'(by omega)).2) := by rw [hE, ← m0]
  exact pair_of ht h0 h1 e0 e1 o0 o1 hts hti c0 c1 hc hE2
end K
end Go.Proofs.YtmdibafofdghgaaGreatDoor
