/- Tokens there and back: what LexBack wants. Plain mathematics, of no program but for the tokens' form. -/
import Derived.Test.YtkobjbmjefkmgaaDoorLexK
import Derived.Test.YtkobjbmjefkmgaaDoorLexO
namespace Go.Proofs.YtkobjbmjefkmgaaDoor
open Go.ChangeShapes Go.WideShapes Go.ChangeAt Go.RowKit K L14
set_option linter.unusedVariables false

theorem txt_o : ∀ (f : Nat) (s o : List UInt8) (n : Nat), txt f s = some (o, n) → o.length + 1 ≤ n
  | 0, _, _, _, h => by cases h
  | f + 1, [], _, _, h => by cases h
  | f + 1, c :: t, o, n, h => by
    simp only [txt] at h
    split at h
    · injection h with h; injection h with h1 h; subst h h1; simp
    · split at h
      · cases h
      · split at h
        · cases he : esc t with
          | none => rw [he] at h; cases h
          | some y =>
            obtain ⟨b, k⟩ := y
            rw [he] at h
            simp only at h
            obtain ⟨z, hz, h⟩ := Option.map_eq_some_iff.1 h
            obtain ⟨z1, z2⟩ := z
            have := txt_o f _ _ _ hz
            injection h with h1 h
            simp only at h h1
            subst h h1
            simp only [List.length_cons]; omega
        · obtain ⟨z, hz, h⟩ := Option.map_eq_some_iff.1 h
          obtain ⟨z1, z2⟩ := z
          have := txt_o f _ _ _ hz
          injection h with h1 h
          simp only at h h1
          subst h h1
          simp only [List.length_cons]; omega
theorem nxt_o {s : List UInt8} {k : Nat} {t : List UInt8} {n : Nat} (h : nxt s = some ((k, t), n)) : t.length ≤ n := by
  cases s with
  | nil => cases h
  | cons c r =>
    simp only [nxt] at h
    split at h
    · injection h with h; injection h with h1 h2; injection h1 with _ h1; subst h1 h2; simp
    · split at h
      · injection h with h; injection h with h1 h2; injection h1 with _ h1; subst h1 h2; rw [List.length_take]; omega
      · split at h
        · injection h with h; injection h with h1 h2; injection h1 with _ h1; subst h1 h2; rw [List.length_take]; omega
        · split at h
          · split at h
            · cases h
            · injection h with h; injection h with h1 h2; injection h1 with _ h1; subst h1 h2; rw [List.length_take]; omega
          · split at h
            · obtain ⟨z, hz, h⟩ := Option.map_eq_some_iff.1 h
              obtain ⟨z1, z2⟩ := z
              have := txt_o _ _ _ _ hz
              injection h with h1 h2
              injection h1 with _ h1
              simp only at h1 h2
              subst h1 h2; omega
            · cases h
theorem split_o : ∀ (n m ln : Nat) (s : List UInt8) (k : List Tk), s.length ≤ n → split m ln s = .ok k → ∀ x ∈ k, x.t.length ≤ n := by
  intro n
  induction n with
  | zero =>
    intro m ln s k hs h
    have : s = [] := List.length_eq_zero_iff.1 (by omega)
    subst this
    rw [split_end (by rfl)] at h
    injection h with h; subst h
    intro x hx; cases hx
  | succ n ih =>
    intro m ln s k hs h
    by_cases hr : rst s = []
    · rw [split_end hr] at h
      injection h with h; subst h
      intro x hx; cases hx
    · cases hx : nxt (rst s) with
      | none => rw [split_no hr hx] at h; cases h
      | some z =>
        obtain ⟨⟨kk, t⟩, j⟩ := z
        cases m with
        | zero => rw [split_full hr hx] at h; cases h
        | succ m =>
          rw [split_go hr hx] at h
          have hn := nxt_n hx
          have ho := nxt_o hx
          have hl := rst_len s
          cases hs2 : split m (lin ln s) ((rst s).drop j) with
          | error e => rw [hs2] at h; cases h
          | ok q =>
            rw [hs2] at h
            injection h with h; subst h
            have h1 := ih m _ _ q (by rw [List.length_drop]; omega) hs2
            intro x hx
            rcases List.mem_cons.1 hx with rfl | hx
            · show t.length ≤ n + 1; omega
            · have := h1 x hx; omega
/-- The answer's tokens are tokens, and short. -/
theorem pgL_is (s : List UInt8) : allT (bare (pgL s)) = true ∧ (pgL s).length ≤ 4096 ∧ ∀ x ∈ pgL s, x.t.length ≤ 65536 := by
  have h0 : pgL s = [] → allT (bare (pgL s)) = true ∧ (pgL s).length ≤ 4096 ∧ ∀ x ∈ pgL s, x.t.length ≤ 65536 := fun h => by rw [h]; exact ⟨rfl, by simp, fun x hx => by cases hx⟩
  by_cases hs : s.length ≤ 65536
  · cases hx : all14 s with
    | error e => exact h0 (pg_er hs hx).2.2
    | ok l =>
      by_cases hl : 4096 < l.length
      · exact h0 (pg_many hs hx hl).2.2
      · rw [(pg_all hs hx (by omega)).2.2]
        obtain ⟨h1, h2⟩ := split_is s.length (s.length + 1) 1 s l (Nat.le_refl _) hx
        exact ⟨h1, by omega, fun x hx2 => by have := split_o s.length (s.length + 1) 1 s l (Nat.le_refl _) hx x hx2; omega⟩
  · exact h0 (pg_long (by omega)).2.2
theorem kN_tok {k : Int} {t : List UInt8} (h : isT (kN k) t = true) : ((kN k : Nat) : Int) = k := by
  unfold kN at h ⊢
  by_cases k1 : k = 1
  · rw [if_pos k1, k1]; rfl
  rw [if_neg k1] at h ⊢
  by_cases k2 : k = 2
  · rw [if_pos k2, k2]; rfl
  rw [if_neg k2] at h ⊢
  by_cases k3 : k = 3
  · rw [if_pos k3, k3]; rfl
  rw [if_neg k3] at h ⊢
  by_cases k4 : k = 4
  · rw [if_pos k4, k4]; rfl
  rw [if_neg k4] at h ⊢
  by_cases k5 : k = 5
  · rw [if_pos k5, k5]; rfl
  rw [if_neg k5] at h
  cases h
theorem tok_kN {k : Nat} {t : List UInt8} (h : isT k t = true) : kN (k : Int) = k := by
  unfold isT at h
  by_cases k1 : k = 1
  · subst k1; rfl
  rw [if_neg k1] at h
  by_cases k2 : k = 2
  · subst k2; rfl
  rw [if_neg k2] at h
  by_cases k3 : k = 3
  · subst k3; rfl
  rw [if_neg k3] at h
  by_cases k4 : k = 4
  · subst k4; rfl
  rw [if_neg k4] at h
  by_cases k5 : k = 5
  · subst k5; rfl
  rw [if_neg k5] at h
  cases h
theorem bq_kt (l : List Tq) : bq l = (kt l).map fun x => (kN x.1, x.2) := by simp [bq, kt]
theorem kt_bq : ∀ (l : List Tq), allT (bq l) = true → kt l = (bq l).map fun x => (((x.1 : Nat) : Int), x.2)
  | [], _ => rfl
  | x :: l, h => by
    have h' : isT (kN x.k) x.t = true ∧ allT (bq l) = true := by simpa [bq, allT] using h
    show (x.k, x.t) :: kt l = (((kN x.k : Nat) : Int), x.t) :: (bq l).map _
    rw [kN_tok h'.1, kt_bq l h'.2]
theorem kt_tq (k : List Tk) : kt (tq k) = (bare k).map fun x => (((x.1 : Nat) : Int), x.2) := by simp [kt, tq, bare]
theorem bq_tq : ∀ (k : List Tk), allT (bare k) = true → bq (tq k) = bare k
  | [], _ => rfl
  | x :: l, h => by
    have h' : isT x.k x.t = true ∧ allT (bare l) = true := by simpa [bare, allT] using h
    show (kN (x.k : Nat), x.t) :: bq (tq l) = (x.k, x.t) :: bare l
    rw [tok_kN h'.1, bq_tq l h'.2]
/-- What is printed is split as it was. -/
theorem back_k {l : List Tq} (hT : allT (bq l) = true) (hl : l.length ≤ 4096) (hf : (file (bq l)).length ≤ 65536) : pgE (file (bq l)) = 0 ∧ pgN (file (bq l)) = 0 ∧ kt (tq (pgL (file (bq l)))) = kt l := by
  obtain ⟨k, hk, hb⟩ := split_file (bq l) [] 4096 1 clo_nil hT (by simpa [bq] using hl)
  rw [List.nil_append] at hk
  obtain ⟨h1, h2, h3⟩ := pg_ok hf hk
  exact ⟨h1, h2, by rw [h3, kt_tq, hb, kt_bq l hT]⟩
theorem pr_kt {l m : List Tq} (h : kt l = kt m) : prS l = prS m ∧ prE l = prE m := by
  unfold prS prE
  rw [bq_kt l, bq_kt m, h]; exact ⟨rfl, rfl⟩
/-- A file that is split and printed. -/
theorem back_s (s : List UInt8) : prS (tq (pgL s)) = file (bq (tq (pgL s))) ∧ prE (tq (pgL s)) = 0 ∧ allT (bq (tq (pgL s))) = true := by
  have h := (pgL_is s).1
  have h2 : allT (bq (tq (pgL s))) = true := by rw [bq_tq _ h]; exact h
  unfold prS prE
  rw [h2]; exact ⟨rfl, rfl, rfl⟩
theorem back_m (s : List UInt8) : (pgE (prS (tq (pgL s))) = 2 ∧ pgL (prS (tq (pgL s))) = []) ∨ (pgE (prS (tq (pgL s))) = 0 ∧ kt (tq (pgL (prS (tq (pgL s))))) = kt (tq (pgL s)) ∧ prS (tq (pgL (prS (tq (pgL s))))) = prS (tq (pgL s)) ∧ prE (tq (pgL (prS (tq (pgL s))))) = 0) := by
  obtain ⟨h1, h2, h3⟩ := back_s s
  by_cases hf : (file (bq (tq (pgL s)))).length ≤ 65536
  · obtain ⟨q1, q2, q3⟩ := back_k h3 (by rw [tq_len]; exact (pgL_is s).2.1) hf
    rw [← h1] at q1 q2 q3
    obtain ⟨p1, p2⟩ := pr_kt q3
    exact .inr ⟨q1, q3, p1, by rw [p2, h2]⟩
  · rw [h1]
    generalize file (bq (tq (pgL s))) = T at hf
    have hf2 : 65536 < T.length := by omega
    exact .inl ⟨(pg_long hf2).1, (pg_long hf2).2.2⟩
/-- The bytes of all texts. -/
def tot (l : List Tq) : Nat := (l.map fun x => x.t.length).sum
theorem file_tot : ∀ l : List Tq, (file (bq l)).length ≤ 4 * tot l + 3 * l.length
  | [] => by simp [bq, file]
  | x :: l => by
    have := file_tot l
    have h1 := put_len (kN x.k) x.t
    have h2 : (bhd (kN x.k) x.t).length = 1 := by rcases bhd_two (kN x.k) x.t with h | h <;> rw [h] <;> rfl
    show (put (kN x.k) x.t ++ (bhd (kN x.k) x.t ++ file (bq l))).length ≤ 4 * (x.t.length + tot l) + 3 * (l.length + 1)
    rw [List.length_append, List.length_append]; omega
end Go.Proofs.YtkobjbmjefkmgaaDoor
