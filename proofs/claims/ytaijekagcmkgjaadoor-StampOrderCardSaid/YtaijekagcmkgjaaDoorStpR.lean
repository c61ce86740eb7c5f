/- Plain mathematics: what the document's own reading of a stamp comes to. Nothing of the program. -/
import Derived.Test.YtaijekagcmkgjaaDoorStpQ
namespace Go.Proofs.YtaijekagcmkgjaaDoor
open K
namespace S3

/-- Days from 1970 on, ahead of a year; 0 of an earlier one. -/
def pst (y : Nat) : Int := if 1970 ≤ y then ya y else 0
/-- The number that a text spells; below 0, of none. -/
def numI (X : List UInt8) : Int := if !X.isEmpty && X.all isD then (vl X : Int) else -1
theorem numI_no (X : List UInt8) (h : X.all isD = false) : numI X = -1 := by unfold numI; rw [h]; simp
theorem numI_nil : numI [] = -1 := rfl
theorem numI_yes (X : List UInt8) (h : X.all isD = true) (h0 : 0 < X.length) : numI X = vl X := by
  unfold numI
  have : X.isEmpty = false := by simpa using List.length_pos_iff.1 h0
  rw [h, this]; rfl

theorem numI_ge (X : List UInt8) : -1 ≤ numI X := by unfold numI; split <;> omega
theorem numI_pos (X : List UInt8) (h : 0 ≤ numI X) : X.all isD = true ∧ 0 < X.length ∧ numI X = vl X := by
  cases ha : X.all isD
  · rw [numI_no X ha] at h; omega
  · cases X with
    | nil => rw [numI_nil] at h; omega
    | cons c t => exact ⟨rfl, by simp, numI_yes _ ha (by simp)⟩
theorem numI_lt (X : List UInt8) (k : Nat) (h : X.length ≤ k) : numI X < ((10 ^ k : Nat) : Int) := by
  by_cases h0 : 0 ≤ numI X
  · have h1 := numI_pos X h0
    have h2 := vl_lt X h1.1
    have h3 : 10 ^ X.length ≤ 10 ^ k := Nat.pow_le_pow_right (by omega) h
    rw [h1.2.2]; omega
  · have : 0 < 10 ^ k := Nat.pow_pos (by omega)
    omega
/-- Digits at the beginning, as the document reads them. -/
theorem nOk_num (k : Nat) (lo hi : Int) (l : List UInt8) (hk : 1 ≤ k) (h0 : 0 ≤ lo) : nOk k lo hi l = true ↔ k ≤ l.length ∧ lo ≤ numI (l.take k) ∧ numI (l.take k) ≤ hi := by
  rw [nOk_iff]
  constructor
  · rintro ⟨a, b, c, d⟩
    rw [numI_yes _ b (by rw [List.length_take]; omega)]
    exact ⟨a, c, d⟩
  · rintro ⟨a, b, c⟩
    obtain ⟨e, _, f⟩ := numI_pos _ (Int.le_trans h0 b)
    rw [f] at b c
    exact ⟨a, e, b, c⟩
theorem nOk_val {k : Nat} {lo hi : Int} {l : List UInt8} (hk : 1 ≤ k) (h0 : 0 ≤ lo) (h : nOk k lo hi l = true) : nV k lo hi l = numI (l.take k) ∧ nL k l = l.drop k := by
  have h1 := (nOk_num k lo hi l hk h0).1 h
  obtain ⟨e, _, f⟩ := numI_pos _ (Int.le_trans h0 h1.2.1)
  rw [f]; exact nOk_get h
theorem byt_dropN (l : List UInt8) (i j : Nat) : byt (l.drop i) j = byt l (i + j) := by simp [byt]
theorem slice_drop (l : List UInt8) (i j k : Nat) : ((l.drop i).drop j).take k = (l.drop (i + j)).take k := by rw [List.drop_drop]

/-- Hours and minutes. -/
theorem hm_iff (t : List UInt8) : hmOk t = true ↔ 5 ≤ t.length ∧ 0 ≤ numI (t.take 2) ∧ numI (t.take 2) ≤ 23 ∧ (byt t 2 : Int) = 58 ∧ 0 ≤ numI ((t.drop 3).take 2) ∧ numI ((t.drop 3).take 2) ≤ 59 := by
  unfold hmOk
  rw [Bool.and_eq_true, Bool.and_eq_true]
  constructor
  · rintro ⟨⟨a, b⟩, c⟩
    have a2 := nOk_val (by omega) (by omega) a
    rw [a2.2] at b c
    rw [mkL_of b, List.drop_drop] at c
    have a3 := (nOk_num 2 0 23 t (by omega) (by omega)).1 a
    have b3 := (mkOk_iff 58 _).1 b
    rw [byt_dropN] at b3
    have c3 := (nOk_num 2 0 59 _ (by omega) (by omega)).1 c
    rw [List.length_drop] at c3
    exact ⟨by omega, a3.2.1, a3.2.2, b3.2, c3.2.1, c3.2.2⟩
  · rintro ⟨h, a1, a2, b, c1, c2⟩
    have a : nOk 2 0 23 t = true := (nOk_num 2 0 23 t (by omega) (by omega)).2 ⟨by omega, a1, a2⟩
    have a4 := nOk_val (by omega) (by omega) a
    have b4 : mkOk 58 (t.drop 2) = true := (mkOk_iff 58 _).2 ⟨by rw [List.length_drop]; omega, by rw [byt_dropN]; exact b⟩
    rw [a4.2, mkL_of b4, List.drop_drop]
    exact ⟨⟨a, b4⟩, (nOk_num 2 0 59 _ (by omega) (by omega)).2 ⟨by rw [List.length_drop]; omega, c1, c2⟩⟩
theorem hm_get {t : List UInt8} (h : hmOk t = true) : hmV t = numI (t.take 2) * 60 + numI ((t.drop 3).take 2) ∧ hmL t = t.drop 5 := by
  have h' := h
  unfold hmOk at h'
  rw [Bool.and_eq_true, Bool.and_eq_true] at h'
  obtain ⟨⟨a, b⟩, c⟩ := h'
  have a2 := nOk_val (by omega) (by omega) a
  unfold hmV hmL
  rw [a2.2] at b c ⊢
  rw [mkL_of b, List.drop_drop] at c ⊢
  have c2 := nOk_val (by omega) (by omega) c
  rw [a2.1, c2.1, c2.2, List.drop_drop]
  exact ⟨rfl, rfl⟩

/-- A zone, and nothing behind it. -/
def rzOk (l : List UInt8) : Bool := zOk l && (zL l).isEmpty
def rzV (l : List UInt8) : Int := if rzOk l then zV l else 0
theorem rz_z : rzOk [90] = true ∧ rzV [90] = 0 := by decide
theorem mk_not {c : Int} {l : List UInt8} (h : ¬ (0 < l.length ∧ (byt l 0 : Int) = c)) : mkOk c l = false := by
  cases hk : mkOk c l
  · rfl
  · exact absurd ((mkOk_iff c l).1 hk) h
/-- What the document asks of a zone other than Z. -/
def zGood (l : List UInt8) : Prop := l.length = 6 ∧ ((byt l 0 : Int) = 43 ∨ (byt l 0 : Int) = 45) ∧ (byt l 3 : Int) = 58 ∧ 0 ≤ numI ((l.drop 1).take 2) ∧ numI ((l.drop 1).take 2) ≤ 23 ∧ 0 ≤ numI ((l.drop 4).take 2) ∧ numI ((l.drop 4).take 2) ≤ 59
theorem rz_bad (l : List UInt8) (hz : l ≠ [90]) (h : ¬ zGood l) : rzOk l = false := by
  cases hr : rzOk l
  · rfl
  · exfalso
    unfold rzOk at hr
    rw [Bool.and_eq_true] at hr
    obtain ⟨h1, h2⟩ := hr
    have main : ∀ c : Int, (c = 43 ∨ c = 45) → mkOk c l = true → hmOk (mkL c l) = true → (hmL (mkL c l)).isEmpty = true → False := by
      intro c hc hk hm he
      rw [mkL_of hk] at hm he
      have k2 := (mkOk_iff c l).1 hk
      have m1 := (hm_iff _).1 hm
      have m2 := hm_get hm
      rw [m2.2, List.drop_drop] at he
      have he2 : l.drop (1 + 5) = [] := by simpa using he
      have hlen := congrArg List.length he2
      rw [List.length_drop] at m1 hlen
      rw [byt_dropN, List.drop_drop] at m1
      refine h ⟨by simp at hlen; omega, ?_, m1.2.2.2.1, m1.2.1, m1.2.2.1, m1.2.2.2.2.1, m1.2.2.2.2.2⟩
      rcases hc with rfl | rfl
      · exact Or.inl k2.2
      · exact Or.inr k2.2
    unfold zOk at h1
    unfold zL at h2
    cases k90 : mkOk 90 l
    · rw [k90] at h1 h2
      cases k43 : mkOk 43 l
      · rw [k43] at h1 h2
        simp only [Bool.false_eq_true, if_false, Bool.and_eq_true] at h1 h2
        exact main 45 (Or.inr rfl) h1.1 h1.2 h2
      · rw [k43] at h1 h2
        simp only [Bool.false_eq_true, if_false, if_true] at h1 h2
        exact main 43 (Or.inl rfl) k43 h1 h2
    · rw [k90] at h2
      simp only [if_true] at h2
      cases l with
      | nil => simp [mkOk] at k90
      | cons c t =>
        have hc : (c.toNat : Int) = 90 := by simpa [mkOk] using k90
        rw [mkL_of k90] at h2
        simp at h2
        subst h2
        apply hz
        congr 1
        exact UInt8.toNat_inj.1 (show c.toNat = 90 by omega)
theorem rz_good (l : List UInt8) (h : zGood l) : rzOk l = true ∧ rzV l = (if (byt l 0 : Int) = 45 then -60 * numI ((l.drop 1).take 2) - numI ((l.drop 4).take 2) else 60 * numI ((l.drop 1).take 2) + numI ((l.drop 4).take 2)) := by
  obtain ⟨h6, hs, h3, a1, a2, b1, b2⟩ := h
  have hm : hmOk (l.drop 1) = true := by
    rw [hm_iff, List.length_drop, byt_dropN, List.drop_drop]
    exact ⟨by omega, a1, a2, h3, b1, b2⟩
  have g := hm_get hm
  rw [List.drop_drop, List.drop_drop] at g
  have he : l.drop (1 + 5) = [] := List.drop_eq_nil_of_le (by omega)
  rw [he] at g
  have k90 : mkOk 90 l = false := mk_not (by rintro ⟨_, e⟩; rcases hs with e2 | e2 <;> omega)
  rcases hs with e | e
  · have k43 : mkOk 43 l = true := (mkOk_iff 43 l).2 ⟨by omega, e⟩
    have r : rzOk l = true := by unfold rzOk zOk zL; rw [k90, k43, mkL_of k43, hm, g.2]; rfl
    refine ⟨r, ?_⟩
    unfold rzV zV
    simp only [r, k90, k43, if_true, Bool.false_eq_true, if_false]
    rw [mkL_of k43, g.1, if_neg (by omega : ¬ (byt l 0 : Int) = 45)]
    simp only [Nat.reduceAdd]; omega
  · have k43 : mkOk 43 l = false := mk_not (by rintro ⟨_, e2⟩; omega)
    have k45 : mkOk 45 l = true := (mkOk_iff 45 l).2 ⟨by omega, e⟩
    have r : rzOk l = true := by unfold rzOk zOk zL; rw [k90, k43, k45, mkL_of k45, hm, g.2]; rfl
    refine ⟨r, ?_⟩
    unfold rzV zV
    simp only [r, k90, k43, if_true, Bool.false_eq_true, if_false]
    rw [mkL_of k45, g.1, if_pos e]
    simp only [Nat.reduceAdd]; omega

/-! ### The whole stamp -/
def gY (l : List UInt8) : Int := numI (l.take 4)
def gM (l : List UInt8) : Int := numI ((l.drop 5).take 2)
def gD (l : List UInt8) : Int := numI ((l.drop 8).take 2)
def gH (l : List UInt8) : Int := numI ((l.drop 11).take 2)
def gI (l : List UInt8) : Int := numI ((l.drop 14).take 2)
def gC (l : List UInt8) : Int := numI ((l.drop 17).take 2)
structure Seps (l : List UInt8) : Prop where
  len : 20 ≤ l.length
  s4 : (byt l 4 : Int) = 45
  s7 : (byt l 7 : Int) = 45
  s10 : (byt l 10 : Int) = 84
  s13 : (byt l 13 : Int) = 58
  s16 : (byt l 16 : Int) = 58
structure Nums5 (l : List UInt8) : Prop where
  y : 0 ≤ gY l
  m1 : 1 ≤ gM l
  m2 : gM l ≤ 12
  d1 : 1 ≤ gD l
  d2 : gD l ≤ dim (gY l).toNat (gM l).toNat
  h1 : 0 ≤ gH l
  h2 : gH l ≤ 23
  i1 : 0 ≤ gI l
  i2 : gI l ≤ 59
  c1 : 0 ≤ gC l
  c2 : gC l ≤ 59
theorem d_of {l : List UInt8} (h : dOk l = true) : 10 ≤ l.length ∧ 0 ≤ gY l ∧ (byt l 4 : Int) = 45 ∧ 1 ≤ gM l ∧ gM l ≤ 12 ∧ (byt l 7 : Int) = 45 ∧ 1 ≤ gD l ∧ gD l ≤ dim (gY l).toNat (gM l).toNat ∧
    dV l = ya (gY l).toNat + da (gY l).toNat (gM l).toNat + gD l - 1 ∧ dL l = l.drop 10 := by
  unfold dOk at h
  simp only [Bool.and_eq_true] at h
  obtain ⟨⟨⟨⟨a, b⟩, c⟩, d⟩, e⟩ := h
  have a2 := nOk_val (by omega) (by omega) a
  have a3 := (nOk_num _ _ _ _ (by omega) (by omega)).1 a
  rw [a2.2] at b
  have b3 := (mkOk_iff _ _).1 b
  rw [List.length_drop, byt_dropN] at b3
  have l1 : dl1 l = l.drop 5 := by unfold dl1; rw [a2.2, mkL_of b, List.drop_drop]
  rw [l1] at c d
  have c2 := nOk_val (by omega) (by omega) c
  have c3 := (nOk_num _ _ _ _ (by omega) (by omega)).1 c
  rw [c2.2] at d
  rw [List.length_drop] at c3
  have d3 := (mkOk_iff _ _).1 d
  rw [List.length_drop, List.length_drop, byt_dropN, byt_dropN] at d3
  have l2 : dl2 l = l.drop 8 := by unfold dl2; rw [l1, c2.2, mkL_of d, List.drop_drop, List.drop_drop]
  have hY : dY l = (gY l).toNat := by unfold dY gY; rw [a2.1]
  have hM : dM l = (gM l).toNat := by unfold dM gM; rw [l1, c2.1]
  rw [l2, hY, hM] at e
  have e2 := nOk_val (by omega) (by omega) e
  have e3 := (nOk_num _ _ _ _ (by omega) (by omega)).1 e
  rw [List.length_drop] at e3
  refine ⟨by omega, a3.2.1, b3.2, c3.2.1, c3.2.2, d3.2, e3.2.1, e3.2.2, ?_, ?_⟩
  · unfold dV dD; rw [hY, hM, l2, e2.1]; rfl
  · unfold dL; rw [l2, e2.2, List.drop_drop]
theorem d_mk {l : List UInt8} (h0 : 10 ≤ l.length) (hy : 0 ≤ gY l) (h4 : (byt l 4 : Int) = 45) (m1 : 1 ≤ gM l) (m2 : gM l ≤ 12) (h7 : (byt l 7 : Int) = 45) (d1 : 1 ≤ gD l) (d2 : gD l ≤ dim (gY l).toNat (gM l).toNat) : dOk l = true := by
  have hy9 : gY l ≤ 9999 := by
    have := numI_lt (l.take 4) 4 (by rw [List.length_take]; omega)
    unfold gY; simp at this; omega
  have a : nOk 4 0 9999 l = true := (nOk_num _ _ _ _ (by omega) (by omega)).2 ⟨by omega, hy, hy9⟩
  have a2 := nOk_val (by omega) (by omega) a
  have b : mkOk 45 (l.drop 4) = true := (mkOk_iff _ _).2 ⟨by rw [List.length_drop]; omega, by rw [byt_dropN]; exact h4⟩
  have l1 : dl1 l = l.drop 5 := by unfold dl1; rw [a2.2, mkL_of b, List.drop_drop]
  have c : nOk 2 1 12 (l.drop 5) = true := (nOk_num _ _ _ _ (by omega) (by omega)).2 ⟨by rw [List.length_drop]; omega, m1, m2⟩
  have c2 := nOk_val (by omega) (by omega) c
  have d : mkOk 45 ((l.drop 5).drop 2) = true := (mkOk_iff _ _).2 ⟨by rw [List.length_drop, List.length_drop]; omega, by rw [byt_dropN, byt_dropN]; exact h7⟩
  have l2 : dl2 l = l.drop 8 := by unfold dl2; rw [l1, c2.2, mkL_of d, List.drop_drop, List.drop_drop]
  have hY : dY l = (gY l).toNat := by unfold dY gY; rw [a2.1]
  have hM : dM l = (gM l).toNat := by unfold dM gM; rw [l1, c2.1]
  have e : nOk 2 1 (dim (gY l).toNat (gM l).toNat) (l.drop 8) = true := (nOk_num _ _ _ _ (by omega) (by omega)).2 ⟨by rw [List.length_drop]; omega, d1, d2⟩
  unfold dOk
  rw [a, a2.2, b, l1, c, c2.2, d, hY, hM, l2, e]
  rfl
theorem zOk_len {l : List UInt8} (h : zOk l = true) : 0 < l.length := by
  cases l with
  | nil => exact absurd h (by decide)
  | cons c t => simp
/-- When a stamp is right in form: as the document has it. -/
theorem p_of {l : List UInt8} (h : pOk l = true) : Seps l ∧ Nums5 l ∧ fOk (l.drop 19) = true ∧ rzOk (fL (l.drop 19)) = true := by
  unfold pOk at h
  simp only [Bool.and_eq_true] at h
  obtain ⟨⟨⟨⟨⟨⟨⟨a, b⟩, c⟩, d⟩, e⟩, f⟩, g⟩, k⟩ := h
  obtain ⟨a0, ay, a4, am1, am2, a7, ad1, ad2, aV, aL⟩ := d_of a
  rw [aL] at b
  have b3 := (mkOk_iff _ _).1 b
  rw [byt_dropN] at b3
  have q1 : p1 l = l.drop 11 := by unfold p1; rw [aL, mkL_of b, List.drop_drop]
  rw [q1] at c d
  have c3 := (hm_iff _).1 c
  have c2 := hm_get c
  rw [c2.2] at d
  have d3 := (mkOk_iff _ _).1 d
  rw [byt_dropN, byt_dropN] at d3
  rw [byt_dropN, List.drop_drop, List.length_drop] at c3
  have q2 : p2 l = l.drop 17 := by unfold p2; rw [q1, c2.2, mkL_of d, List.drop_drop, List.drop_drop]
  rw [q2] at e
  have e3 := (nOk_num _ _ _ _ (by omega) (by omega)).1 e
  have e2 := nOk_val (by omega) (by omega) e
  rw [List.length_drop] at e3
  have q3 : p3 l = l.drop 19 := by unfold p3; rw [q2, e2.2, List.drop_drop]
  have q4 : p4 l = fL (l.drop 19) := by unfold p4; rw [q3]
  rw [q3] at f
  rw [q4] at g k
  have hz := zOk_len g
  have hfl := fL_len (l.drop 19)
  rw [List.length_drop] at hfl
  refine ⟨⟨by omega, a4, a7, b3.2, c3.2.2.2.1, d3.2⟩, ⟨ay, am1, am2, ad1, ad2, c3.2.1, c3.2.2.1, c3.2.2.2.2.1, c3.2.2.2.2.2, e3.2.1, e3.2.2⟩, f, ?_⟩
  unfold rzOk
  rw [g, k]; rfl
theorem p_mk {l : List UInt8} (s : Seps l) (n : Nums5 l) (f : fOk (l.drop 19) = true) (z : rzOk (fL (l.drop 19)) = true) :
    pOk l = true ∧ pS l = (ya (gY l).toNat + da (gY l).toNat (gM l).toNat + gD l - 1) * 86400 + (gH l * 60 + gI l - rzV (fL (l.drop 19))) * 60 + gC l ∧ pF l = fV (l.drop 19) := by
  have hlen := s.len
  have a := d_mk (by omega) n.y s.s4 n.m1 n.m2 s.s7 n.d1 n.d2
  obtain ⟨_, _, _, _, _, _, _, _, aV, aL⟩ := d_of a
  have b : mkOk 84 (l.drop 10) = true := (mkOk_iff _ _).2 ⟨by rw [List.length_drop]; omega, by rw [byt_dropN]; exact s.s10⟩
  have q1 : p1 l = l.drop 11 := by unfold p1; rw [aL, mkL_of b, List.drop_drop]
  have c : hmOk (l.drop 11) = true := by
    rw [hm_iff, List.length_drop, byt_dropN, List.drop_drop]
    exact ⟨by omega, n.h1, n.h2, s.s13, n.i1, n.i2⟩
  have c2 := hm_get c
  rw [List.drop_drop, List.drop_drop] at c2
  have d : mkOk 58 (l.drop 16) = true := (mkOk_iff _ _).2 ⟨by rw [List.length_drop]; omega, by rw [byt_dropN]; exact s.s16⟩
  have q2 : p2 l = l.drop 17 := by unfold p2; rw [q1, c2.2, mkL_of d, List.drop_drop]
  have e : nOk 2 0 59 (l.drop 17) = true := (nOk_num _ _ _ _ (by omega) (by omega)).2 ⟨by rw [List.length_drop]; omega, n.c1, n.c2⟩
  have e2 := nOk_val (by omega) (by omega) e
  have q3 : p3 l = l.drop 19 := by unfold p3; rw [q2, e2.2, List.drop_drop]
  have q4 : p4 l = fL (l.drop 19) := by unfold p4; rw [q3]
  have z2 := z
  unfold rzOk at z2
  rw [Bool.and_eq_true] at z2
  have rv : rzV (fL (l.drop 19)) = zV (fL (l.drop 19)) := by unfold rzV; rw [z]; rfl
  refine ⟨?_, ?_, ?_⟩
  · unfold pOk
    rw [a, aL, b, q1, c, c2.2, d, q2, e, q3, f, q4, z2.1, z2.2]; rfl
  · unfold pS
    rw [aV, q1, c2.1, q2, e2.1, q4, rv]
    unfold gH gI gC
    simp only [Nat.reduceAdd]; omega
  · unfold pF; rw [q3]
/-- Years too early, and too late. -/
theorem p_early {l : List UInt8} (s : Seps l) (n : Nums5 l) (f : fOk (l.drop 19) = true) (z : rzOk (fL (l.drop 19)) = true) (h : gY l < 1969 ∨ 2100 < gY l) : prsV l = 0 ∧ prsC l = 30 := by
  have hp := p_mk s n f z
  have hz : -1439 ≤ rzV (fL (l.drop 19)) ∧ rzV (fL (l.drop 19)) ≤ 1439 := by
    have := zV_in (fL (l.drop 19)); unfold rzV; split <;> omega
  have hda := da_in (gY l).toNat (gM l).toNat (by have := n.m1; omega) (by have := n.m2; omega)
  have hdm := dim_in (gY l).toNat (gM l).toNat (by have := n.m1; omega) (by have := n.m2; omega)
  have h1 := n.h1; have h2 := n.h2; have i1 := n.i1; have i2 := n.i2; have c1 := n.c1; have c2 := n.c2; have d1 := n.d1; have d2 := n.d2; have hy := n.y
  have hcum := da_last (gY l).toNat
  have hlast : da (gY l).toNat (gM l).toNat + dim (gY l).toNat (gM l).toNat ≤ 366 := by
    unfold dim
    have := da_in (gY l).toNat ((gM l).toNat + 1) (by omega) (by have := n.m2; omega)
    omega
  have no : pS l < 0 ∨ 2305843009 < pS l := by
    rw [hp.2.1]
    rcases h with h | h
    · left
      have : ya ((gY l).toNat : Int) ≤ -731 := by unfold ya lf; omega
      omega
    · right
      have : 47846 ≤ ya ((gY l).toNat : Int) := by unfold ya lf; omega
      omega
  unfold prsV prsC
  have : pGood l = false := by
    unfold pGood
    rcases no with h | h
    · rw [decide_eq_false (by omega : ¬ 0 ≤ pS l)]; simp
    · rw [decide_eq_false (by omega : ¬ pS l ≤ 2305843009)]; simp
  rw [this]; exact ⟨rfl, rfl⟩
theorem p_none {l : List UInt8} (h : pOk l = false) : prsV l = 0 ∧ prsC l = 30 := by
  have : pGood l = false := by unfold pGood; rw [h]; rfl
  unfold prsV prsC; rw [this]; exact ⟨rfl, rfl⟩
theorem p_not {l : List UInt8} (h : ¬ (Seps l ∧ Nums5 l ∧ fOk (l.drop 19) = true ∧ rzOk (fL (l.drop 19)) = true)) : prsV l = 0 ∧ prsC l = 30 := by
  refine p_none ?_
  cases hk : pOk l
  · rfl
  · exact absurd (p_of hk) h
end S3
end Go.Proofs.YtaijekagcmkgjaaDoor
