/- Texts in quotes, and signs, with blanks and remarks between them. Plain mathematics, of no program. -/
import Derived.Test.YtkobjbmjefkmgaaDoorLexR
namespace Go.Proofs.YtkobjbmjefkmgaaDoor
open K
set_option linter.unusedVariables false
namespace L14
/-- A text in quotes, a sign, and what stands behind each. -/
def blk : List (List UInt8 × List UInt8) → List UInt8
  | [] => []
  | (c, z) :: r => quo c ++ (z ++ (59 :: (z ++ blk r)))
/-- Their tokens, from a line on. -/
def blT : Nat → List (List UInt8 × List UInt8) → List Tk
  | _, [] => []
  | ln, (c, z) :: r => ⟨4, c, ln⟩ :: ⟨5, [59], ln + nls z⟩ :: blT (ln + nls z + nls z) r
theorem blT_len : ∀ (l : List (List UInt8 × List UInt8)) (ln : Nat), (blT ln l).length = 2 * l.length
  | [], _ => rfl
  | (c, z) :: r, ln => by
    show (blT _ r).length + 1 + 1 = 2 * (r.length + 1)
    rw [blT_len r]; omega
theorem put4 (c : List UInt8) : put 4 c = quo c := rfl
theorem put59 : put 5 [59] = [59] := by decide
theorem split_blk : ∀ (l : List (List UInt8 × List UInt8)) (b : List UInt8) (m ln : Nat), Clo b → (∀ x ∈ l, Clo x.2) → 2 * l.length ≤ m → split m ln (b ++ blk l) = .ok (blT (ln + nls b) l)
  | [], b, m, ln, hb, _, _ => by rw [blk, List.append_nil]; exact split_blank hb m ln
  | (c, z) :: r, b, m, ln, hb, hz, hm => by
    simp only [List.length_cons] at hm
    obtain ⟨m', rfl⟩ : ∃ m', m = m' + 1 + 1 := ⟨m - 2, by omega⟩
    have hz1 : Clo z := hz (c, z) (List.mem_cons_self ..)
    have ih := split_blk r z m' (ln + nls b + nls z) hz1 (fun x hx => hz x (List.mem_cons_of_mem _ hx)) (by omega)
    have h5 := split_tok hz1 (k := 5) (t := [59]) (by decide) (z ++ blk r) (.inr (.inl rfl)) m' (ln + nls b)
    have h4 := split_tok hb (k := 4) (t := c) rfl (z ++ (59 :: (z ++ blk r))) (.inl rfl) (m' + 1) ln
    rw [put59] at h5
    rw [put4] at h4
    rw [ih] at h5
    have h5' : split (m' + 1) (ln + nls b) (z ++ (59 :: (z ++ blk r))) = .ok (⟨5, [59], ln + nls b + nls z⟩ :: blT (ln + nls b + nls z + nls z) r) := h5
    rw [h5'] at h4
    exact h4
/-- Other blanks: the same tokens, but for their lines. -/
theorem bare_blT : ∀ (l k : List (List UInt8 × List UInt8)) (a b : Nat), l.map (·.1) = k.map (·.1) → bare (blT a l) = bare (blT b k)
  | [], [], _, _, _ => rfl
  | [], _ :: _, _, _, h => by cases h
  | _ :: _, [], _, _, h => by cases h
  | (c, z) :: r, (d, y) :: q, a, b, h => by
    simp only [List.map_cons, List.cons.injEq] at h
    show (4, c) :: (5, [59]) :: bare (blT _ r) = (4, d) :: (5, [59]) :: bare (blT _ q)
    rw [h.1, bare_blT r q _ _ h.2]
/-- Without new lines all stand on the first. -/
theorem blT_flat : ∀ (l : List (List UInt8 × List UInt8)) (a : Nat), (∀ x ∈ l, nls x.2 = 0) → ∀ y ∈ blT a l, y.l = a
  | [], _, _, y, hy => by cases hy
  | (c, z) :: r, a, h, y, hy => by
    have hz : nls z = 0 := h (c, z) (List.mem_cons_self ..)
    have ih := blT_flat r (a + nls z + nls z) (fun x hx => h x (List.mem_cons_of_mem _ hx))
    rcases List.mem_cons.1 hy with rfl | hy
    · rfl
    · rcases List.mem_cons.1 hy with rfl | hy
      · show a + nls z = a; omega
      · have := ih y hy; omega
/-- The lines rise. -/
theorem blT_low : ∀ (l : List (List UInt8 × List UInt8)) (a : Nat), ∀ y ∈ blT a l, a ≤ y.l
  | [], _, y, hy => by cases hy
  | (c, z) :: r, a, y, hy => by
    have ih := blT_low r (a + nls z + nls z)
    rcases List.mem_cons.1 hy with rfl | hy
    · exact Nat.le_refl _
    · rcases List.mem_cons.1 hy with rfl | hy
      · exact Nat.le_add_right _ _
      · have := ih y hy; omega
theorem blT_rise : ∀ (l : List (List UInt8 × List UInt8)) (a i : Nat) (d : Tk), i + 1 < (blT a l).length → ((blT a l).getD i d).l ≤ ((blT a l).getD (i + 1) d).l
  | [], _, _, _, h => by simp [blT] at h
  | (c, z) :: r, a, 0, d, _ => Nat.le_add_right _ _
  | (c, z) :: r, a, 1, d, h => by
    have h' : 0 < (blT (a + nls z + nls z) r).length := by
      have : (blT a ((c, z) :: r)).length = (blT (a + nls z + nls z) r).length + 1 + 1 := rfl
      omega
    show a + nls z ≤ ((blT (a + nls z + nls z) r).getD 0 d).l
    have := blT_low r (a + nls z + nls z) ((blT (a + nls z + nls z) r).getD 0 d) (by
      rw [show (blT (a + nls z + nls z) r).getD 0 d = (blT (a + nls z + nls z) r)[0] by simp [List.getD, h']]
      exact List.getElem_mem h')
    omega
  | (c, z) :: r, a, i + 2, d, h => by
    have h' : i + 1 < (blT (a + nls z + nls z) r).length := by
      have : (blT a ((c, z) :: r)).length = (blT (a + nls z + nls z) r).length + 1 + 1 := rfl
      omega
    exact blT_rise r (a + nls z + nls z) i d h'
/-- No line beyond the text's own. -/
theorem blT_high : ∀ (l : List (List UInt8 × List UInt8)) (a : Nat), ∀ y ∈ blT a l, y.l ≤ a + nls (blk l)
  | [], _, y, hy => by cases hy
  | (c, z) :: r, a, y, hy => by
    have hn : nls (blk ((c, z) :: r)) = nls (quo c) + (nls z + (nls z + nls (blk r))) := by
      show nls (quo c ++ (z ++ ([59] ++ (z ++ blk r)))) = _
      rw [nls_app, nls_app, nls_app, nls_app, show nls [59] = 0 by decide]; omega
    have ih := blT_high r (a + nls z + nls z)
    rw [hn]
    rcases List.mem_cons.1 hy with rfl | hy
    · exact Nat.le_add_right _ _
    · rcases List.mem_cons.1 hy with rfl | hy
      · show a + nls z ≤ _; omega
      · have := ih y hy; omega
theorem blT_at : ∀ (l : List (List UInt8 × List UInt8)) (a i : Nat) (d : Tk) (e : List UInt8 × List UInt8), i < l.length → ((blT a l).getD (2 * i) d).k = 4 ∧ ((blT a l).getD (2 * i) d).t = (l.getD i e).1
  | [], _, _, _, _, h => by simp at h
  | (c, z) :: r, a, 0, d, e, _ => ⟨rfl, rfl⟩
  | (c, z) :: r, a, i + 1, d, e, h => by
    have := blT_at r (a + nls z + nls z) i d e (by simpa using h)
    rw [show 2 * (i + 1) = 2 * i + 1 + 1 by omega]
    exact this
/-- The five blanks. -/
def bnk : Nat → List UInt8
  | 0 => [32]
  | 1 => [10]
  | 2 => [9, 13, 10, 32]
  | 3 => [32, 35, 32, 114, 101, 109, 97, 114, 107, 32, 34, 32, 123, 32, 10]
  | _ => [35, 10, 35, 10]
/-- A remark, to the line's end. -/
theorem skp_rem : ∀ (x : List UInt8) (y : List UInt8), (∀ c ∈ x, c ≠ 10) → skp true (x ++ 10 :: y) = x.length + 1 + skp false y
  | [], y, _ => by
    rw [List.nil_append]
    simp [skp]
    omega
  | c :: x, y, h => by
    have h1 : c ≠ 10 := h c (List.mem_cons_self ..)
    have ih := skp_rem x y (fun d hd => h d (List.mem_cons_of_mem _ hd))
    rw [List.cons_append]
    simp [skp, h1, ih]
    omega
theorem clo_rem (x : List UInt8) (h : ∀ c ∈ x, c ≠ 10) : Clo (35 :: (x ++ [10])) := by
  intro y
  have e : 35 :: (x ++ [10]) ++ y = 35 :: (x ++ 10 :: y) := by simp
  have h1 := skp_rem x y h
  rw [e]
  simp [skp, h1]
  omega
theorem bnk_clo : ∀ n, Clo (bnk n)
  | 0 => clo_bl (c := 32) (by decide) (by decide)
  | 1 => clo_bl (c := 10) (by decide) (by decide)
  | 2 => ((clo_bl (c := 9) (by decide) (by decide)).app ((clo_bl (c := 13) (by decide) (by decide)).app ((clo_bl (c := 10) (by decide) (by decide)).app (clo_bl (c := 32) (by decide) (by decide)))))
  | 3 => (clo_bl (c := 32) (by decide) (by decide)).app (clo_rem [32, 114, 101, 109, 97, 114, 107, 32, 34, 32, 123, 32] (by decide))
  | n + 4 => (clo_rem [] (by decide)).app (clo_rem [] (by decide))
theorem blk_app : ∀ (l : List (List UInt8 × List UInt8)) (c z : List UInt8), blk (l ++ [(c, z)]) = blk l ++ (quo c ++ (z ++ (59 :: z)))
  | [], c, z => by simp [blk]
  | (d, y) :: r, c, z => by
    show quo d ++ (y ++ (59 :: (y ++ blk (r ++ [(c, z)])))) = (quo d ++ (y ++ (59 :: (y ++ blk r)))) ++ _
    rw [blk_app r c z]
    simp
theorem quo_flat : ∀ s : List UInt8, nls (quo s) = 0 := by
  have hb : ∀ b : Fin 256, nls (qb (UInt8.ofNat b.val)) = 0 := by decide +kernel
  have hq : ∀ s : List UInt8, nls (qbd s) = 0 := by
    intro s
    induction s with
    | nil => rfl
    | cons b t ih =>
      show nls (qb b ++ qbd t) = 0
      rw [nls_app, ih]
      have := hb ⟨b.toNat, b.toNat_lt⟩
      simpa using this
  intro s
  show nls ([34] ++ (qbd s ++ [34])) = 0
  rw [nls_app, nls_app, hq s]
  decide
/-- The two files of LexBlanks: split, alike, each as long as it is. -/
theorem blanks_split (l k : List (List UInt8 × List UInt8)) (hl : ∀ x ∈ l, x.2 = [32]) (hk : ∀ x ∈ k, ∃ n, x.2 = bnk n) (hn : 2 * l.length ≤ 4096) (hm : 2 * k.length ≤ 4096) :
    split 4096 1 (blk l) = .ok (blT 1 l) ∧ split 4096 1 (bnk 4 ++ blk k) = .ok (blT 3 k) := by
  refine ⟨?_, ?_⟩
  · have := split_blk l [] 4096 1 clo_nil (fun x hx => by rw [hl x hx]; exact bnk_clo 0) hn
    rw [List.nil_append] at this
    exact this
  · exact split_blk k (bnk 4) 4096 1 (bnk_clo 4) (fun x hx => by obtain ⟨n, h⟩ := hk x hx; rw [h]; exact bnk_clo n) hm
end L14
end Go.Proofs.YtkobjbmjefkmgaaDoor
