/- Texts on the program and on the document, joined: PbhB, ParW, ParX. -/
import Derived.Test.YtaeglmgpoboihaaGreatDoorMa15
import Derived.Test.YtaeglmgpoboihaaGreatDoorMa04
import Derived.Test.YtaeglmgpoboihaaGreatDoorMa13
import Derived.Laws.StructEq
import Derived.BigQuiet
import Derived.Deep.RegionWith
/- The book of two files, one behind the other. Plain mathematics, of no program. -/
namespace Go.Proofs.YtaeglmgpoboihaaGreatDoor
open K
set_option linter.unusedVariables false
set_option linter.unusedSimpArgs false
namespace L14
/-! ### What is read ends ahead of a new line -/
theorem go_nl (k : Nat) : goN k 10 = false := by
  unfold goN
  rw [show ltN 10 = false by decide, show dgN 10 = false by decide]
  (repeat' split) <;> rfl
theorem run_nl (k : Nat) (y : List UInt8) : ∀ s : List UInt8, run k (s ++ 10 :: y) = run k s
  | [] => by
    show (if goN k (10 : UInt8).toNat then run k y + 1 else 0) = 0
    rw [show (10 : UInt8).toNat = 10 from rfl, go_nl]; rfl
  | c :: t => by simp only [List.cons_append, run, run_nl k y t]
theorem nls_cons (c : UInt8) (t : List UInt8) : nls (c :: t) = nls t + (if c = 10 then 1 else 0) := by
  unfold nls
  rw [List.countP_cons]
  by_cases h : c = 10
  · subst h; rfl
  · rw [if_neg h, if_neg (by simpa using h)]
theorem run_flat (k : Nat) : ∀ s : List UInt8, nls (s.take (run k s)) = 0
  | [] => rfl
  | c :: t => by
    simp only [run]
    split
    · next h =>
      rw [List.take_succ_cons, nls_cons, run_flat k t, if_neg]
      intro hc
      rw [hc, show (10 : UInt8).toNat = 10 from rfl, go_nl] at h
      cases h
    · rfl
theorem esc_app {s : List UInt8} {b : UInt8} {n : Nat} (h : esc s = some (b, n)) (y : List UInt8) : esc (s ++ y) = some (b, n) := by
  cases s with
  | nil => cases h
  | cons c t =>
    simp only [esc, List.cons_append] at h ⊢
    split at h
    · next h1 => rw [if_pos h1]; exact h
    · next h1 =>
      rw [if_neg h1]
      split at h
      · next h2 => rw [if_pos h2]; exact h
      · next h2 =>
        rw [if_neg h2]
        split at h
        · next h3 => rw [if_pos h3]; exact h
        · next h3 =>
          rw [if_neg h3]
          split at h
          · next h4 =>
            rw [if_pos h4]
            match t, h with
            | a :: l :: r, h => exact h
          · cases h
theorem nib_nl {c : UInt8} {a : Nat} (h : nib c.toNat = some a) : ¬ c = 10 := by
  intro hc
  rw [hc, show nib (10 : UInt8).toNat = none by decide] at h
  cases h
theorem esc_flat {s : List UInt8} {b : UInt8} {n : Nat} (h : esc s = some (b, n)) : nls (s.take n) = 0 := by
  cases s with
  | nil => cases h
  | cons c t =>
    simp only [esc] at h
    have one : ¬ c = 10 → n = 1 → nls ((c :: t).take n) = 0 := fun h1 h2 => by
      rw [h2, List.take_succ_cons, nls_cons, if_neg h1]; rfl
    split at h
    · next h1 =>
      injection h with h; injection h with _ h
      refine one ?_ h.symm
      rintro rfl
      exact absurd h1 (by decide)
    · split at h
      · next h2 =>
        injection h with h; injection h with _ h
        exact one (by rw [h2]; decide) h.symm
      · split at h
        · next h3 =>
          injection h with h; injection h with _ h
          exact one (by rw [h3]; decide) h.symm
        · split at h
          · next h4 =>
            match t, h with
            | a :: l :: r, h =>
              simp only at h
              split at h
              · next x z hx hz =>
                injection h with h; injection h with _ h
                rw [← h, List.take_succ_cons, List.take_succ_cons, List.take_succ_cons, nls_cons, nls_cons, nls_cons, if_neg (nib_nl hx), if_neg (nib_nl hz), if_neg (by rw [h4]; decide)]
                rfl
              · cases h
          · cases h
theorem txt_app (y : List UInt8) : ∀ (f g : Nat) (s : List UInt8) (x : List UInt8 × Nat), txt f s = some x → f ≤ g → txt g (s ++ y) = some x
  | 0, _, _, _, h, _ => by cases h
  | f + 1, 0, _, _, _, h => by omega
  | f + 1, g + 1, [], _, h, _ => by cases h
  | f + 1, g + 1, c :: t, x, h, hg => by
    simp only [txt, List.cons_append] at h ⊢
    split at h
    · next h1 => rw [if_pos h1]; exact h
    · next h1 =>
      rw [if_neg h1]
      split at h
      · cases h
      · next h2 =>
        rw [if_neg h2]
        split at h
        · next h3 =>
          rw [if_pos h3]
          cases he : esc t with
          | none => rw [he] at h; cases h
          | some e =>
            obtain ⟨b, n⟩ := e
            rw [he] at h
            simp only at h
            obtain ⟨z, hz, h⟩ := Option.map_eq_some_iff.1 h
            rw [esc_app he y]
            simp only
            have hn := esc_n he
            rw [List.drop_append_of_le_length hn.2, txt_app y f g _ z hz (by omega)]
            exact congrArg some h
        · next h3 =>
          rw [if_neg h3]
          obtain ⟨z, hz, h⟩ := Option.map_eq_some_iff.1 h
          rw [txt_app y f g t z hz (by omega)]
          exact congrArg some h
theorem txt_flat : ∀ (f : Nat) (s o : List UInt8) (n : Nat), txt f s = some (o, n) → nls (s.take n) = 0
  | 0, _, _, _, h => by cases h
  | f + 1, [], _, _, h => by cases h
  | f + 1, c :: t, o, n, h => by
    simp only [txt] at h
    split at h
    · next h1 =>
      injection h with h; injection h with _ h
      rw [← h, List.take_succ_cons, nls_cons, if_neg (by rw [h1]; decide)]; rfl
    · split at h
      · cases h
      · next h2 =>
        have hc : ¬ c = 10 := by rintro rfl; exact h2 (by decide)
        split at h
        · cases he : esc t with
          | none => rw [he] at h; cases h
          | some e =>
            obtain ⟨b, k⟩ := e
            rw [he] at h
            simp only at h
            obtain ⟨z, hz, h⟩ := Option.map_eq_some_iff.1 h
            obtain ⟨z1, z2⟩ := z
            injection h with _ h
            simp only at h
            have := txt_flat f _ _ _ hz
            have he' := esc_flat he
            rw [← h, show z2 + 1 + k = (k + z2) + 1 by omega, List.take_succ_cons, nls_cons, if_neg hc, List.take_add, nls_app, he', this]
        · obtain ⟨z, hz, h⟩ := Option.map_eq_some_iff.1 h
          obtain ⟨z1, z2⟩ := z
          injection h with _ h
          simp only at h
          rw [← h, List.take_succ_cons, nls_cons, if_neg hc, txt_flat f _ _ _ hz]
theorem nxt_nl {s : List UInt8} {x : (Nat × List UInt8) × Nat} (h : nxt s = some x) (y : List UInt8) : nxt (s ++ 10 :: y) = some x := by
  cases s with
  | nil => cases h
  | cons c t =>
    have e : ∀ k, ((c :: t) ++ 10 :: y).take (run k ((c :: t) ++ 10 :: y)) = (c :: t).take (run k (c :: t)) := fun k => by
      rw [run_nl, List.take_append_of_le_length (run_le k _)]
    have e' : ∀ k, run k (c :: (t ++ 10 :: y)) = run k (c :: t) := fun k => run_nl k y (c :: t)
    have e3 : ∀ k, (t ++ 10 :: y).take (run k t) = t.take (run k t) := fun k => List.take_append_of_le_length (run_le k _)
    have e4 : ∀ k, (c :: (t ++ 10 :: y)).take (run k (c :: t)) = (c :: t).take (run k (c :: t)) := fun k => List.take_append_of_le_length (l₁ := c :: t) (run_le k _)
    simp only [nxt, List.cons_append] at h ⊢
    split at h
    · next h1 => rw [if_pos h1]; exact h
    · next h1 =>
      rw [if_neg h1]
      split at h
      · next h2 => rw [if_pos h2, e', e4]; exact h
      · next h2 =>
        rw [if_neg h2]
        split at h
        · next h3 => rw [if_pos h3, e', e4]; exact h
        · next h3 =>
          rw [if_neg h3]
          split at h
          · next h4 => rw [if_pos h4, run_nl, e3]; exact h
          · next h4 =>
            rw [if_neg h4]
            split at h
            · next h5 =>
              rw [if_pos h5]
              obtain ⟨z, hz, h⟩ := Option.map_eq_some_iff.1 h
              have : text (t ++ 10 :: y) = some z := txt_app _ _ _ _ _ hz (by rw [List.length_append]; omega)
              rw [this]
              exact congrArg some h
            · cases h
theorem nxt_flat {s : List UInt8} {k : Nat} {t : List UInt8} {n : Nat} (h : nxt s = some ((k, t), n)) : nls (s.take n) = 0 := by
  cases s with
  | nil => cases h
  | cons c r =>
    have one : ¬ c = 10 → n = 1 → nls ((c :: r).take n) = 0 := fun h1 h2 => by
      rw [h2, List.take_succ_cons, nls_cons, if_neg h1]; rfl
    simp only [nxt] at h
    split at h
    · next h1 =>
      injection h with h; injection h with _ h
      refine one ?_ h.symm
      rintro rfl
      exact absurd h1 (by decide)
    · split at h
      · injection h with h; injection h with _ h
        rw [← h]; exact run_flat 1 _
      · split at h
        · injection h with h; injection h with _ h
          rw [← h]; exact run_flat 2 _
        · split at h
          · next h4 =>
            split at h
            · cases h
            · injection h with h; injection h with _ h
              rw [← h, List.take_succ_cons, nls_cons, if_neg (by rw [h4]; decide), run_flat]
          · split at h
            · next h5 =>
              obtain ⟨z, hz, h⟩ := Option.map_eq_some_iff.1 h
              obtain ⟨z1, z2⟩ := z
              injection h with _ h
              simp only at h
              rw [← h, List.take_succ_cons, nls_cons, if_neg (by rw [h5]; decide), txt_flat _ _ _ _ hz]
            · cases h
/-! ### Blanks -/
theorem skp_full (y : List UInt8) : ∀ (r : Bool) (s : List UInt8), skp r s = s.length → skp r (s ++ 10 :: y) = s.length + 1 + skp false y
  | r, [], _ => by
    show skp r (10 :: y) = 0 + 1 + skp false y
    rw [skp, if_pos (by rw [show blN (10 : UInt8).toNat = true by decide, Bool.or_true]), if_pos rfl]; omega
  | r, c :: t, h => by
    have hl := skp_le (if c = 10 then false else if c = 35 then true else r) t
    simp only [skp, List.cons_append, List.length_cons] at h ⊢
    split at h
    · next h1 =>
      rw [if_pos h1, skp_full y _ t (by omega)]; omega
    · omega
theorem skp_part (y : List UInt8) : ∀ (r : Bool) (s : List UInt8), skp r s < s.length → skp r (s ++ y) = skp r s
  | r, [], h => by simp at h
  | r, c :: t, h => by
    simp only [skp, List.cons_append, List.length_cons] at h ⊢
    split at h
    · next h1 =>
      rw [if_pos h1, if_pos h1, skp_part y _ t (by omega)]
    · next h1 => rw [if_neg h1, if_neg h1]
theorem rst_nil {s : List UInt8} (h : rst s = []) : skp false s = s.length := by
  have := skp_le false s
  unfold rst at h
  have h2 := List.drop_eq_nil_iff.1 h
  omega
theorem rst_some {s : List UInt8} (h : ¬ rst s = []) : skp false s < s.length := by
  have := skp_le false s
  rcases Nat.lt_or_ge (skp false s) s.length with h1 | h1
  · exact h1
  · exact absurd (List.drop_eq_nil_iff.2 h1) h
theorem clo_line {s : List UInt8} (h : rst s = []) : Clo (s ++ [10]) := fun y => by
  rw [List.append_assoc]
  show skp false (s ++ 10 :: y) = _
  rw [skp_full y false s (rst_nil h), List.length_append]; rfl
theorem rst_app {s : List UInt8} (h : ¬ rst s = []) (y : List UInt8) : rst (s ++ y) = rst s ++ y := by
  have h1 := rst_some h
  unfold rst
  rw [skp_part y false s h1, List.drop_append_of_le_length (by omega)]
theorem lin_app {s : List UInt8} (h : ¬ rst s = []) (ln : Nat) (y : List UInt8) : lin ln (s ++ y) = lin ln s := by
  have h1 := rst_some h
  unfold lin
  rw [skp_part y false s h1, List.take_append_of_le_length (by omega)]
theorem lin_add (ln d : Nat) (s : List UInt8) : lin (ln + d) s = lin ln s + d := by unfold lin; omega
theorem rst_lt {s : List UInt8} {n : Nat} {y : Nat × List UInt8} (h : ¬ rst s = []) (hx : nxt (rst s) = some (y, n)) : ((rst s).drop n).length < s.length := by
  obtain ⟨k, t⟩ := y
  have h1 := nxt_n hx
  have h2 := rst_len s
  rw [List.length_drop]; omega
/-! ### A file's tokens -/
theorem split_cases {m ln : Nat} {s : List UInt8} {k : List Tk} (h : split m ln s = .ok k) : (rst s = [] ∧ k = []) ∨ ∃ m' k' t' n r, ¬ rst s = [] ∧ m = m' + 1 ∧ nxt (rst s) = some ((k', t'), n) ∧ split m' (lin ln s) ((rst s).drop n) = .ok r ∧ k = ⟨k', t', lin ln s⟩ :: r := by
  by_cases hr : rst s = []
  · rw [split_end hr] at h
    injection h with h
    exact .inl ⟨hr, h.symm⟩
  · right
    cases hx : nxt (rst s) with
    | none => rw [split_no hr hx] at h; cases h
    | some y =>
      cases m with
      | zero => rw [split_full hr hx] at h; cases h
      | succ m =>
        obtain ⟨⟨k', t'⟩, n⟩ := y
        rw [split_go hr hx] at h
        cases hs : split m (lin ln s) ((rst s).drop n) with
        | error e => rw [hs] at h; cases h
        | ok r =>
          rw [hs] at h
          injection h with h
          exact ⟨m, k', t', n, r, hr, rfl, rfl, hs, h.symm⟩
theorem split_many : ∀ (N m ln : Nat) (s : List UInt8) (k : List Tk), s.length ≤ N → split m ln s = .ok k → k.length ≤ s.length := by
  intro N
  induction N with
  | zero =>
    intro m ln s k hN h
    rcases split_cases h with ⟨-, rfl⟩ | ⟨m', k', t', n, r, hr, -, hx, hs, rfl⟩
    · exact Nat.zero_le _
    · have := rst_lt hr hx; omega
  | succ N ih =>
    intro m ln s k hN h
    rcases split_cases h with ⟨-, rfl⟩ | ⟨m', k', t', n, r, hr, -, hx, hs, rfl⟩
    · exact Nat.zero_le _
    · have h1 := rst_lt hr hx
      have h2 := ih _ _ _ _ (by omega) hs
      simp only [List.length_cons]; omega
theorem split_same : ∀ (N m m' ln d : Nat) (s : List UInt8) (k : List Tk), s.length ≤ N → split m ln s = .ok k → k.length ≤ m' → split m' (ln + d) s = .ok (k.map (L15.sh d)) := by
  intro N
  induction N with
  | zero =>
    intro m m' ln d s k hN h hm
    rcases split_cases h with ⟨hr, rfl⟩ | ⟨m2, k', t', n, r, hr, -, hx, hs, rfl⟩
    · exact split_end hr
    · have := rst_lt hr hx; omega
  | succ N ih =>
    intro m m' ln d s k hN h hm
    rcases split_cases h with ⟨hr, rfl⟩ | ⟨m2, k', t', n, r, hr, -, hx, hs, rfl⟩
    · exact split_end hr
    · have h1 := rst_lt hr hx
      simp only [List.length_cons] at hm
      obtain ⟨m', rfl⟩ : ∃ g, m' = g + 1 := ⟨m' - 1, by omega⟩
      rw [split_go hr hx, lin_add, ih _ m' _ d _ _ (by omega) hs (by omega)]
      rfl
theorem split_join (t : List UInt8) (y : List Tk) : ∀ (N m M ln : Nat) (s : List UInt8) (k : List Tk), s.length ≤ N → split m ln s = .ok k → k.length ≤ M → split (M - k.length) (ln + nls s + 1) t = .ok y → split M ln (s ++ 10 :: t) = .ok (k ++ y) := by
  have base : ∀ (M ln : Nat) (s : List UInt8), rst s = [] → split (M - 0) (ln + nls s + 1) t = .ok y → split M ln (s ++ 10 :: t) = .ok y := by
    intro M ln s hr h
    have e : s ++ 10 :: t = (s ++ [10]) ++ t := by simp
    rw [e, split_ahead (clo_line hr), nls_app]
    exact h
  intro N
  induction N with
  | zero =>
    intro m M ln s k hN h hM hy
    rcases split_cases h with ⟨hr, rfl⟩ | ⟨m2, k', t', n, r, hr, -, hx, hs, rfl⟩
    · exact base M ln s hr hy
    · have := rst_lt hr hx; omega
  | succ N ih =>
    intro m M ln s k hN h hM hy
    rcases split_cases h with ⟨hr, rfl⟩ | ⟨m2, k', t', n, r, hr, -, hx, hs, rfl⟩
    · exact base M ln s hr hy
    · have h1 := rst_lt hr hx
      have hn := nxt_n hx
      simp only [List.length_cons] at hM
      obtain ⟨M, rfl⟩ : ∃ g, M = g + 1 := ⟨M - 1, by omega⟩
      have hr' : ¬ rst (s ++ 10 :: t) = [] := by rw [rst_app hr]; simp
      have hx' : nxt (rst (s ++ 10 :: t)) = some ((k', t'), n) := by rw [rst_app hr]; exact nxt_nl hx t
      have hl : lin ln s + nls ((rst s).drop n) + 1 = ln + nls s + 1 := by
        have e1 : nls s = nls (s.take (skp false s)) + nls (rst s) := by
          rw [← nls_app]; unfold rst; rw [List.take_append_drop]
        have e2 : nls (rst s) = nls ((rst s).take n) + nls ((rst s).drop n) := by
          rw [← nls_app, List.take_append_drop]
        have e3 := nxt_flat hx
        unfold lin
        omega
      rw [split_go hr' hx', lin_app hr, rst_app hr, List.drop_append_of_le_length hn.2]
      rw [ih _ M _ _ _ (by omega) hs (by omega) (by
        rw [hl]
        rw [List.length_cons, Nat.add_sub_add_right] at hy
        exact hy)]
      rfl
end L14
namespace L15
open L14 S3
theorem paE_ok {s : List UInt8} (h : paE s = 0) : s.length ≤ 65536 ∧ split 4096 1 s = .ok (spL s) ∧ parseT (spL s) = (paB s, none) := by
  have h1 : spE s = 0 := by
    unfold paE at h
    split at h
    · next h1 => exact absurd h h1
    · next h1 => exact Decidable.not_not.1 h1
  have hl : s.length ≤ 65536 := by
    rcases Nat.lt_or_ge 65536 s.length with h2 | h2
    · unfold spE at h1; rw [if_pos h2] at h1; cases h1
    · exact h2
  refine ⟨hl, ?_, ?_⟩
  · cases hs : split 4096 1 s with
    | ok l => rw [(sp_ok hl hs).2.2]
    | error e =>
      have h3 := split_line _ _ _ _ _ (Nat.le_refl _) hs
      rw [(sp_er hl hs).1] at h1
      omega
  · unfold paE at h
    unfold paB
    rw [if_neg (fun h => h h1)] at h ⊢
    cases hp : (parseT (spL s)).2 with
    | some _ => rw [hp] at h; cases h
    | none => exact Prod.ext rfl hp
/-- Two files, one behind the other, are the book of both. -/
theorem paE_app {s t : List UInt8} (hs : s.length ≤ 2000) (ht : t.length ≤ 2000) (h1 : paE s = 0) (h2 : paE t = 0) :
    paE (s ++ 10 :: t) = 0 ∧ paB (s ++ 10 :: t) = apB (paB s) (shB (nls s + 1) (paB t)) := by
  obtain ⟨-, a1, a2⟩ := paE_ok h1
  obtain ⟨-, b1, b2⟩ := paE_ok h2
  have c1 := split_many _ _ _ _ _ (Nat.le_refl _) a1
  have c2 := split_many _ _ _ _ _ (Nat.le_refl _) b1
  have e := split_join t _ _ _ 4096 1 s _ (Nat.le_refl _) a1 (by omega) (by
    rw [show 1 + nls s + 1 = 1 + (nls s + 1) by omega]
    exact split_same _ _ _ _ (nls s + 1) _ _ (Nat.le_refl _) b1 (by omega))
  have hl : (s ++ 10 :: t).length ≤ 65536 := by rw [List.length_append, List.length_cons]; omega
  obtain ⟨f1, -, f3⟩ := sp_ok hl e
  have g := parse_app (spL s) (spL t) (nls s + 1) a2 b2
  unfold paE paB
  rw [if_neg (fun h => h f1), if_neg (fun h => h f1), f3, g]
  exact ⟨rfl, rfl⟩
end L15
end Go.Proofs.YtaeglmgpoboihaaGreatDoor
/- The document's Same of books that are the same: params, sets, rules, walked. -/
namespace Go.Proofs.YtaeglmgpoboihaaGreatDoor
open Go.ChangeShapes Go.WideShapes Go.ChangeAt Go.RowKit K L15
set_option linter.unusedVariables false

theorem rdrw_at {w : World} {T : TypeId} {c : Nat} {ao : Option Addr} {rows : List (List Value)} (h : RdRw w T c ao rows) {i : Nat} (hi : i < rows.length) : ∃ g o, ao = some ⟨g, o, none⟩ ∧ ∀ j, j < c → w.cell? ⟨g, o + i * c + j, none⟩ = (rows.getD i [])[j]? := by
  rcases h with h | ⟨g, o, ha, -, hc⟩
  · omega
  · exact ⟨g, o, ha, fun j hj => hc i hi j hj⟩
theorem map_at {α : Type} {f : α → List Value} {l : List α} {i : Nat} (h : i < l.length) : (l.map f).getD i [] = f l[i] := by
  simp [List.getD, h]
theorem rd_dn {w : World} {T : TypeId} {c : Nat} {ao : Option Addr} {rows : List (List Value)} (h : RdRw w T c ao rows) (n : Nat) : RdRw (w.drewN n) T c ao rows := h
theorem sets_at {w : World} : ∀ {rs : List (List Value)} {ss : List St} {i : Nat}, SetsR w rs ss → (h : i < ss.length) → StRow w (rs.getD i []) ss[i]
  | [], [], i, _, h => by simp at h
  | [], _ :: _, _, h, _ => h.elim
  | _ :: _, [], _, h, _ => h.elim
  | r :: rs, s :: ss, 0, ⟨h1, h3⟩, h => h1
  | r :: rs, s :: ss, i + 1, ⟨h1, h3⟩, h => by
    have := sets_at (i := i) h3 (by simpa using h)
    simpa [List.getD] using this
theorem setsr_dn {w : World} {rs : List (List Value)} {ss : List St} (h : SetsR w rs ss) (n : Nat) : SetsR (w.drewN n) rs ss := h.keep fun _ _ x => rd_dn x n
theorem bel_dn {B : Nat} {a b : World} (h : Below B a b) (n : Nat) : Below B a (b.drewN n) := ⟨h.os, h.tape, h.output, h.size, h.block⟩
/-- A rule's value. -/
def ruV (x : Ru) (po : Option Addr) (pc : Nat) (qo : Option Addr) (qc : Nat) : Value := .agg #[.string (bs x.n), .int .i64 x.l, .int .i64 x.fr, .string (bs x.oid), .bool x.wi, .slice po x.ts.length pc, .slice qo x.ss.length qc, .bool x.dr]
end Go.Proofs.YtaeglmgpoboihaaGreatDoor
/- The document's Same of books that are the same, walked. -/
namespace Go.Proofs.YtaeglmgpoboihaaGreatDoor
open Go.ChangeShapes Go.WideShapes Go.ChangeAt Go.RowKit K L15
set_option linter.unusedVariables false

theorem rl_at {α : Type} {R : List Value → α → Prop} : ∀ {rs : List (List Value)} {ss : List α} {i : Nat}, RlR R rs ss → (h : i < ss.length) → R (rs.getD i []) ss[i]
  | [], [], i, _, h => by simp at h
  | [], _ :: _, _, h, _ => h.elim
  | _ :: _, [], _, h, _ => h.elim
  | r :: rs, s :: ss, 0, ⟨h1, h3⟩, h => h1
  | r :: rs, s :: ss, i + 1, ⟨h1, h3⟩, h => by
    have := rl_at (i := i) h3 (by simpa using h)
    simpa [List.getD] using this
/-- Is a book of a bearable size? -/
def BkS (b : Bk) : Prop := b.tb.length ≤ 1000000 ∧ b.ru.length ≤ 1000000 ∧ b.wt.length ≤ 1000000 ∧ (∀ t ∈ b.tb, t.ks.length ≤ 1000000) ∧ ∀ x ∈ b.ru, x.ts.length ≤ 1000000 ∧ x.ss.length ≤ 1000000 ∧ ∀ s ∈ x.ss, s.ps.length ≤ 1000000
end Go.Proofs.YtaeglmgpoboihaaGreatDoor
