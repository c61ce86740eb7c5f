/- Texts on the program and on the document, joined: BerP. -/
import Derived.Test.YtmdibafofdghgaaGreatDoorMa01
/- Elements of the basic encoding: plain mathematics, of no program. -/
namespace Go.Proofs.YtmdibafofdghgaaGreatDoor
open K P1
namespace B5

/-! ### Tags, lengths -/
def isTag (t : Nat) : Bool := t % 32 != 31
def isMade (t : Nat) : Bool := t / 32 % 2 == 1
/-- How many bytes a length has behind its first one. -/
def kb (n : Nat) : Nat := if n < 256 then 1 else if n < 65536 then 2 else if n < 16777216 then 3 else 4
theorem kb_pos (n : Nat) : 1 ≤ kb n ∧ kb n ≤ 4 := by
  unfold kb
  by_cases h1 : n < 256
  · rw [if_pos h1]; omega
  · by_cases h2 : n < 65536
    · rw [if_neg h1, if_pos h2]; omega
    · by_cases h3 : n < 16777216
      · rw [if_neg h1, if_neg h2, if_pos h3]; omega
      · rw [if_neg h1, if_neg h2, if_neg h3]; omega
theorem kb_fits (n : Nat) (h : n < 4294967296) : n < 256 ^ kb n := by
  unfold kb
  by_cases h1 : n < 256
  · rw [if_pos h1]; omega
  · by_cases h2 : n < 65536
    · rw [if_neg h1, if_pos h2]; omega
    · by_cases h3 : n < 16777216
      · rw [if_neg h1, if_neg h2, if_pos h3]; omega
      · rw [if_neg h1, if_neg h2, if_neg h3]; omega
theorem kb_least (n k : Nat) (h : n < 256 ^ k) (h1 : 1 ≤ k) (h4 : k ≤ 4) : kb n ≤ k := by
  unfold kb
  obtain rfl | rfl | rfl | rfl : k = 1 ∨ k = 2 ∨ k = 3 ∨ k = 4 := by omega
  all_goals
    by_cases h1 : n < 256
    · rw [if_pos h1]; omega
    · by_cases h2 : n < 65536
      · rw [if_neg h1, if_pos h2]; omega
      · by_cases h3 : n < 16777216
        · rw [if_neg h1, if_neg h2, if_pos h3]; omega
        · rw [if_neg h1, if_neg h2, if_neg h3]; omega
/-- A length in its shortest form. -/
def short (n : Nat) : List UInt8 := if n < 128 then [b8 n] else b8 (128 + kb n) :: pad (kb n) n
theorem short_len (n : Nat) : (short n).length = if n < 128 then 1 else 1 + kb n := by
  unfold short
  by_cases h : n < 128
  · rw [if_pos h, if_pos h]; rfl
  · rw [if_neg h, if_neg h, List.length_cons, pad_length]; omega
def put (t : Nat) (b : List UInt8) : List UInt8 := b8 t :: (short b.length ++ b)
theorem put_len (t : Nat) (b : List UInt8) : (put t b).length = 1 + (short b.length).length + b.length := by
  unfold put; rw [List.length_cons, List.length_append]; omega
/-- The length at the beginning: its bytes, its value, whether there is one. -/
def lK (l : List UInt8) : Nat := if byt l 0 < 128 then 1 else 1 + (byt l 0 - 128)
def lV (l : List UInt8) : Nat := if byt l 0 < 128 then byt l 0 else num ((l.drop 1).take (byt l 0 - 128))
def lOk (l : List UInt8) : Bool := !l.isEmpty && (decide (byt l 0 < 128) || (decide (129 ≤ byt l 0) && (decide (byt l 0 ≤ 132) && decide (lK l ≤ l.length))))
theorem lOk_iff (l : List UInt8) : lOk l = true ↔ l ≠ [] ∧ (byt l 0 < 128 ∨ (129 ≤ byt l 0 ∧ byt l 0 ≤ 132 ∧ lK l ≤ l.length)) := by
  unfold lOk; simp
theorem byt_cons0 (a : UInt8) (r : List UInt8) : byt (a :: r) 0 = a.toNat := by simp [byt]
theorem len_short (n : Nat) (h : n < 4294967296) (x : List UInt8) : lOk (short n ++ x) = true ∧ lV (short n ++ x) = n ∧ lK (short n ++ x) = (short n).length := by
  by_cases h1 : n < 128
  · have e : short n = [b8 n] := by unfold short; rw [if_pos h1]
    have b0 : byt ([b8 n] ++ x) 0 = n := by rw [List.cons_append, byt_cons0, b8_toNat _ (by omega)]
    rw [e]
    refine ⟨?_, ?_, ?_⟩
    · rw [lOk_iff]; exact ⟨by simp, .inl (by rw [b0]; exact h1)⟩
    · unfold lV; rw [b0, if_pos h1]
    · unfold lK; rw [b0, if_pos h1]; rfl
  · have hk := kb_pos n
    have hf := kb_fits n h
    have e : short n = b8 (128 + kb n) :: pad (kb n) n := by unfold short; rw [if_neg h1]
    have b0 : byt (b8 (128 + kb n) :: pad (kb n) n ++ x) 0 = 128 + kb n := by rw [List.cons_append, byt_cons0, b8_toNat _ (by omega)]
    have hK : lK (b8 (128 + kb n) :: pad (kb n) n ++ x) = 1 + kb n := by unfold lK; rw [b0, if_neg (by omega)]; omega
    rw [e]
    refine ⟨?_, ?_, ?_⟩
    · rw [lOk_iff]
      refine ⟨by simp, .inr ⟨by rw [b0]; omega, by rw [b0]; omega, ?_⟩⟩
      rw [hK, List.cons_append, List.length_cons, List.length_append, pad_length]; omega
    · unfold lV
      rw [b0, if_neg (by omega), show 128 + kb n - 128 = kb n by omega]
      show num ((pad (kb n) n ++ x).take (kb n)) = n
      rw [List.take_append_of_le_length (by rw [pad_length]; omega), List.take_of_length_le (by rw [pad_length]; omega), num_pad, Nat.mod_eq_of_lt hf]
    · rw [hK, List.length_cons, pad_length]; omega
/-- What a length says fits into its bytes; none is shorter than the shortest. -/
theorem len_of {l : List UInt8} (h : lOk l = true) : lV l < 4294967296 ∧ (short (lV l)).length ≤ lK l ∧ lK l ≤ l.length ∧ 1 ≤ lK l ∧ lK l ≤ 5 := by
  obtain ⟨hne, hc⟩ := (lOk_iff l).1 h
  have hp := List.length_pos_iff.2 hne
  rw [short_len]
  rcases hc with h1 | ⟨h1, h2, h3⟩
  · have hK : lK l = 1 := by unfold lK; rw [if_pos h1]
    have hV : lV l = byt l 0 := by unfold lV; rw [if_pos h1]
    rw [hK, hV, if_pos h1]; omega
  · have hK : lK l = 1 + (byt l 0 - 128) := by unfold lK; rw [if_neg (by omega)]
    have hV : lV l = num ((l.drop 1).take (byt l 0 - 128)) := by unfold lV; rw [if_neg (by omega)]
    have hn := num_lt ((l.drop 1).take (byt l 0 - 128))
    have hl : ((l.drop 1).take (byt l 0 - 128)).length = byt l 0 - 128 := by rw [List.length_take, List.length_drop]; omega
    rw [hl, ← hV] at hn
    have hmono : 256 ^ (byt l 0 - 128) ≤ 256 ^ 4 := Nat.pow_le_pow_right (by omega) (by omega)
    have hkb := kb_least (lV l) (byt l 0 - 128) hn (by omega) (by omega)
    refine ⟨by omega, ?_, h3, by omega, by omega⟩
    by_cases hs : lV l < 128
    · rw [if_pos hs]; omega
    · rw [if_neg hs]; omega

/-! ### The element at the beginning -/
def nxT (l : List UInt8) : Nat := byt l 0
def nxB (l : List UInt8) : List UInt8 := (l.drop (1 + lK (l.drop 1))).take (lV (l.drop 1))
def nxR (l : List UInt8) : List UInt8 := l.drop (1 + lK (l.drop 1) + lV (l.drop 1))
def nxOk (l : List UInt8) : Bool := !l.isEmpty && (isTag (byt l 0) && (lOk (l.drop 1) && decide (1 + lK (l.drop 1) + lV (l.drop 1) ≤ l.length)))
theorem nxOk_iff (l : List UInt8) : nxOk l = true ↔ l ≠ [] ∧ isTag (byt l 0) = true ∧ lOk (l.drop 1) = true ∧ 1 + lK (l.drop 1) + lV (l.drop 1) ≤ l.length := by
  unfold nxOk; simp
theorem nx_put (t : Nat) (b r : List UInt8) (ht : isTag t = true) (ht2 : t < 256) (hb : b.length < 4294967296) :
    nxOk (put t b ++ r) = true ∧ nxT (put t b ++ r) = t ∧ nxB (put t b ++ r) = b ∧ nxR (put t b ++ r) = r := by
  obtain ⟨h1, h2, h3⟩ := len_short b.length hb (b ++ r)
  have e : put t b ++ r = b8 t :: (short b.length ++ (b ++ r)) := by unfold put; rw [List.cons_append, List.append_assoc]
  have b0 : byt (b8 t :: (short b.length ++ (b ++ r))) 0 = t := by rw [byt_cons0, b8_toNat _ ht2]
  have d1 : (b8 t :: (short b.length ++ (b ++ r))).drop 1 = short b.length ++ (b ++ r) := rfl
  have d2 : (b8 t :: (short b.length ++ (b ++ r))).drop (1 + (short b.length).length) = b ++ r := by
    rw [Nat.add_comm, List.drop_succ_cons, List.drop_left]
  rw [e]
  refine ⟨?_, b0, ?_, ?_⟩
  · rw [nxOk_iff, b0, d1]
    refine ⟨by simp, ht, h1, ?_⟩
    rw [h2, h3, List.length_cons, List.length_append, List.length_append]; omega
  · unfold nxB; rw [d1, h2, h3, d2, List.take_left]
  · unfold nxR; rw [d1, h2, h3, ← List.drop_drop, d2, List.drop_left]
theorem nx_of {l : List UInt8} (h : nxOk l = true) : isTag (nxT l) = true ∧ nxT l < 256 ∧ (nxB l).length < 4294967296 ∧ (put (nxT l) (nxB l)).length + (nxR l).length ≤ l.length ∧ (nxB l).length + 2 + (nxR l).length ≤ l.length := by
  obtain ⟨h1, h2, h3, h4⟩ := (nxOk_iff l).1 h
  obtain ⟨g1, g2, g3, g4, g5⟩ := len_of h3
  have hB : (nxB l).length = lV (l.drop 1) := by unfold nxB; rw [List.length_take, List.length_drop]; omega
  have hR : (nxR l).length = l.length - (1 + lK (l.drop 1) + lV (l.drop 1)) := by unfold nxR; rw [List.length_drop]
  refine ⟨h2, byt_lt l 0, by rw [hB]; exact g1, ?_, by rw [hB, hR]; omega⟩
  rw [put_len, hB, hR]; omega
theorem put_ne (t : Nat) (b r : List UInt8) : put t b ++ r ≠ [] := by unfold put; simp

/-! ### Elements one behind the other, and within one another -/
inductive Fo where
  | nil : Fo
  | leaf (t : Nat) (b : List UInt8) (r : Fo) : Fo
  | node (t : Nat) (cs r : Fo) : Fo
def Fo.enc : Fo → List UInt8
  | .nil => []
  | .leaf t b r => put t b ++ r.enc
  | .node t cs r => put t cs.enc ++ r.enc
def Fo.dep : Fo → Nat
  | .nil => 0
  | .leaf _ _ r => max 1 r.dep
  | .node _ cs r => max (cs.dep + 1) r.dep
theorem Fo.dep_leaf (t : Nat) (b : List UInt8) (r : Fo) : (Fo.leaf t b r).dep = max 1 r.dep := rfl
theorem Fo.dep_node (t : Nat) (cs r : Fo) : (Fo.node t cs r).dep = max (cs.dep + 1) r.dep := rfl
def Fo.app : Fo → Fo → Fo
  | .nil, g => g
  | .leaf t b r, g => .leaf t b (r.app g)
  | .node t cs r, g => .node t cs (r.app g)
def Fo.WF : Fo → Prop
  | .nil => True
  | .leaf t b r => isTag t = true ∧ t < 256 ∧ isMade t = false ∧ b.length < 4294967296 ∧ r.WF
  | .node t cs r => isTag t = true ∧ t < 256 ∧ isMade t = true ∧ cs.enc.length < 4294967296 ∧ cs.WF ∧ r.WF
theorem Fo.app_nil : ∀ f : Fo, f.app .nil = f
  | .nil => rfl
  | .leaf t b r => by unfold Fo.app; rw [Fo.app_nil r]
  | .node t cs r => by unfold Fo.app; rw [Fo.app_nil r]
theorem Fo.app_app : ∀ f g h : Fo, (f.app g).app h = f.app (g.app h)
  | .nil, _, _ => rfl
  | .leaf t b r, g, h => by simp only [Fo.app]; rw [Fo.app_app r g h]
  | .node t cs r, g, h => by simp only [Fo.app]; rw [Fo.app_app r g h]
theorem Fo.enc_app : ∀ f g : Fo, (f.app g).enc = f.enc ++ g.enc
  | .nil, _ => rfl
  | .leaf t b r, g => by simp only [Fo.app, Fo.enc]; rw [Fo.enc_app r g, List.append_assoc]
  | .node t cs r, g => by simp only [Fo.app, Fo.enc]; rw [Fo.enc_app r g, List.append_assoc]
theorem Fo.dep_app : ∀ f g : Fo, (f.app g).dep = max f.dep g.dep
  | .nil, g => by simp [Fo.app, Fo.dep]
  | .leaf t b r, g => by simp only [Fo.app, Fo.dep]; rw [Fo.dep_app r g]; omega
  | .node t cs r, g => by simp only [Fo.app, Fo.dep]; rw [Fo.dep_app r g]; omega
theorem Fo.WF_app : ∀ f g : Fo, f.WF → g.WF → (f.app g).WF
  | .nil, _, _, h => h
  | .leaf _ _ r, g, ⟨a, b1, c, d, e⟩, h => ⟨a, b1, c, d, Fo.WF_app r g e h⟩
  | .node _ _ r, g, ⟨a, b1, c, d, e, e2⟩, h => ⟨a, b1, c, d, e, Fo.WF_app r g e2 h⟩
/-- The elements of any bytes, from so deep on; or the first thing that is wrong: 50, 51. -/
def par : Nat → Nat → List UInt8 → Except Nat Fo
  | 0, _, l => if l.isEmpty then .ok .nil else .error 50
  | k + 1, at', l =>
    if l.isEmpty then .ok .nil
    else if nxOk l = false then .error 50
    else if 32 < at' then .error 51
    else if isMade (nxT l) then
      match par k (at' + 1) (nxB l) with
      | .error e => .error e
      | .ok cs => match par k at' (nxR l) with
        | .error e => .error e
        | .ok r => .ok (.node (nxT l) cs r)
    else match par k at' (nxR l) with
      | .error e => .error e
      | .ok r => .ok (.leaf (nxT l) (nxB l) r)
theorem par_nil (k a : Nat) : par k a [] = .ok .nil := by cases k <;> rfl
theorem par_more : ∀ (n k m a : Nat) (l : List UInt8), l.length ≤ n → l.length ≤ k → l.length ≤ m → par k a l = par m a l
  | 0, k, m, a, l, hn, _, _ => by
    obtain rfl : l = [] := List.length_eq_zero_iff.1 (by omega)
    rw [par_nil, par_nil]
  | n + 1, k, m, a, l, hn, hk, hm => by
    by_cases h : l = []
    · subst h; rw [par_nil, par_nil]
    · have hp := List.length_pos_iff.2 h
      obtain ⟨k, rfl⟩ : ∃ j, k = j + 1 := ⟨k - 1, by omega⟩
      obtain ⟨m, rfl⟩ : ∃ j, m = j + 1 := ⟨m - 1, by omega⟩
      unfold par
      by_cases hx : nxOk l = true
      · obtain ⟨_, _, _, _, h5⟩ := nx_of hx
        rw [par_more n k m (a + 1) (nxB l) (by omega) (by omega) (by omega), par_more n k m a (nxR l) (by omega) (by omega) (by omega)]
      · rw [Bool.not_eq_true] at hx
        rw [if_pos hx, if_pos hx]
/-- By its own length. -/
def prs (a : Nat) (l : List UInt8) : Except Nat Fo := par l.length a l
theorem prs_nil (a : Nat) : prs a [] = .ok .nil := rfl
theorem prs_step {l : List UInt8} (h : l ≠ []) (a : Nat) : prs a l =
    if nxOk l = false then .error 50
    else if 32 < a then .error 51
    else if isMade (nxT l) then
      match prs (a + 1) (nxB l) with
      | .error e => .error e
      | .ok cs => match prs a (nxR l) with
        | .error e => .error e
        | .ok r => .ok (.node (nxT l) cs r)
    else match prs a (nxR l) with
      | .error e => .error e
      | .ok r => .ok (.leaf (nxT l) (nxB l) r) := by
  have hp := List.length_pos_iff.2 h
  obtain ⟨k, hk⟩ : ∃ k, l.length = k + 1 := ⟨l.length - 1, by omega⟩
  have he : l.isEmpty = false := List.isEmpty_eq_false_iff.2 h
  unfold prs
  rw [hk]
  conv => lhs; unfold par
  rw [he]
  by_cases hx : nxOk l = true
  · obtain ⟨_, _, _, _, h5⟩ := nx_of hx
    rw [par_more k k (nxB l).length (a + 1) (nxB l) (by omega) (by omega) (Nat.le_refl _), par_more k k (nxR l).length a (nxR l) (by omega) (by omega) (Nat.le_refl _)]
    rfl
  · rw [Bool.not_eq_true] at hx
    rw [if_pos hx, if_pos hx]; rfl
/-- What is told of any bytes: elements that may be, no longer, no deeper than may be. -/
theorem prs_of : ∀ (n : Nat) (a : Nat) (l : List UInt8) (f : Fo), l.length ≤ n → prs a l = .ok f → f.WF ∧ f.enc.length ≤ l.length ∧ (f.dep = 0 ∨ f.dep + a ≤ 33)
  | 0, a, l, f, hn, h => by
    obtain rfl : l = [] := List.length_eq_zero_iff.1 (by omega)
    rw [prs_nil] at h
    cases h
    exact ⟨trivial, Nat.le_refl _, .inl rfl⟩
  | n + 1, a, l, f, hn, h => by
    by_cases he : l = []
    · subst he
      rw [prs_nil] at h
      cases h
      exact ⟨trivial, Nat.le_refl _, .inl rfl⟩
    · rw [prs_step he] at h
      by_cases hx : nxOk l = true
      · rw [if_neg (by rw [hx]; simp)] at h
        obtain ⟨g1, g2, g3, g4, g5⟩ := nx_of hx
        rw [put_len] at g4
        by_cases ha : 32 < a
        · rw [if_pos ha] at h; cases h
        · rw [if_neg ha] at h
          by_cases hm : isMade (nxT l) = true
          · rw [if_pos hm] at h
            cases h1 : prs (a + 1) (nxB l) with
            | error e => rw [h1] at h; cases h
            | ok cs =>
              rw [h1] at h
              cases h2 : prs a (nxR l) with
              | error e => rw [h2] at h; cases h
              | ok r =>
                rw [h2] at h
                cases h
                obtain ⟨c1, c2, c3⟩ := prs_of n (a + 1) (nxB l) cs (by omega) h1
                obtain ⟨r1, r2, r3⟩ := prs_of n a (nxR l) r (by omega) h2
                refine ⟨⟨g1, g2, hm, by omega, c1, r1⟩, ?_, ?_⟩
                · unfold Fo.enc
                  rw [List.length_append, put_len]
                  have hs : (short cs.enc.length).length ≤ (short (nxB l).length).length := by
                    rw [short_len, short_len]
                    by_cases q1 : cs.enc.length < 128
                    · rw [if_pos q1]; by_cases q2 : (nxB l).length < 128
                      · rw [if_pos q2]; omega
                      · rw [if_neg q2]; omega
                    · rw [if_neg q1, if_neg (by omega)]
                      have := kb_least cs.enc.length (kb (nxB l).length) (Nat.lt_of_le_of_lt c2 (kb_fits _ g3)) (kb_pos _).1 (kb_pos _).2
                      omega
                  omega
                · unfold Fo.dep; omega
          · rw [if_neg hm] at h
            cases h2 : prs a (nxR l) with
            | error e => rw [h2] at h; cases h
            | ok r =>
              rw [h2] at h
              cases h
              obtain ⟨r1, r2, r3⟩ := prs_of n a (nxR l) r (by omega) h2
              refine ⟨⟨g1, g2, by simpa using hm, g3, r1⟩, ?_, ?_⟩
              · unfold Fo.enc
                rw [List.length_append, put_len]; omega
              · unfold Fo.dep; omega
      · rw [Bool.not_eq_true] at hx
        rw [if_pos hx] at h; cases h
/-- Elements in their shortest form are told as they are, if they are not too deep. -/
theorem prs_enc : ∀ (f : Fo) (a : Nat), f.WF → prs a f.enc = if f.dep = 0 ∨ f.dep + a ≤ 33 then .ok f else .error 51
  | .nil, a, _ => by rw [if_pos (.inl rfl)]; rfl
  | .leaf t b r, a, ⟨h1, h2, h3, h4, h5⟩ => by
    obtain ⟨x1, x2, x3, x4⟩ := nx_put t b r.enc h1 h2 h4
    show prs a (put t b ++ r.enc) = _
    rw [prs_step (put_ne t b r.enc), x1, x2, x3, x4, prs_enc r a h5]
    rw [if_neg (by simp), Fo.dep_leaf]
    by_cases ha : 32 < a
    · rw [if_pos ha, if_neg (by omega)]
    · rw [if_neg ha, if_neg (by rw [h3]; simp)]
      by_cases hd : r.dep = 0 ∨ r.dep + a ≤ 33
      · rw [if_pos hd, if_pos (by omega)]
      · rw [if_neg hd, if_neg (by omega)]
  | .node t cs r, a, ⟨h1, h2, h3, h4, h5, h6⟩ => by
    obtain ⟨x1, x2, x3, x4⟩ := nx_put t cs.enc r.enc h1 h2 h4
    show prs a (put t cs.enc ++ r.enc) = _
    rw [prs_step (put_ne t cs.enc r.enc), x1, x2, x3, x4, prs_enc cs (a + 1) h5, prs_enc r a h6]
    rw [if_neg (by simp), Fo.dep_node]
    by_cases ha : 32 < a
    · rw [if_pos ha, if_neg (by omega)]
    · rw [if_neg ha, if_pos h3]
      by_cases hc : cs.dep = 0 ∨ cs.dep + (a + 1) ≤ 33
      · rw [if_pos hc]
        by_cases hd : r.dep = 0 ∨ r.dep + a ≤ 33
        · simp only [if_pos hd]
          rw [if_pos (by omega)]
        · simp only [if_neg hd]
          rw [if_neg (by omega)]
      · simp only [if_neg hc]
        rw [if_neg (by omega)]
end B5
end Go.Proofs.YtmdibafofdghgaaGreatDoor
