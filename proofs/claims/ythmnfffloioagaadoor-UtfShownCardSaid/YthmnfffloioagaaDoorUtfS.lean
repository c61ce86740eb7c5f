/- What is shown: it is UTF-8 without a control, it tells what it is shown of, and plain text is shown as it is. Plain mathematics, of no program. -/
import Derived.Test.YthmnfffloioagaaDoorUtfQ
namespace Go.Proofs.YthmnfffloioagaaDoor
open K
namespace U4

theorem made_small (c : Nat) (h : c < 128) : made c = [b8 c] := by
  rcases four c with ⟨_, _, e⟩ | ⟨h1, _⟩ | ⟨h1, _⟩ | ⟨h1, _⟩
  · exact e
  all_goals omega
theorem isC_small (c : Nat) (h : c < 128) : isC c = true := by rw [isC_iff]; omega
def hdN (d : Nat) : Nat := if d < 10 then 48 + d else 87 + d
theorem hdN_lt {d : Nat} (h : d < 16) : 48 ≤ hdN d ∧ hdN d < 103 := by
  unfold hdN
  by_cases h1 : d < 10
  · rw [if_pos h1]; omega
  · rw [if_neg h1]; omega
theorem hexb_flat (b : Nat) (h : b < 256) : hexb b = flat [92, 120, hdN (b / 16), hdN (b % 16)] := by
  have h1 := hdN_lt (d := b / 16) (by omega)
  have h2 := hdN_lt (d := b % 16) (by omega)
  rw [flat_cons, flat_cons, flat_cons, flat_cons, flat_nil, made_small 92 (by omega), made_small 120 (by omega), made_small _ (by omega : hdN (b / 16) < 128), made_small _ (by omega : hdN (b % 16) < 128)]
  rfl
theorem bsl_flat : [92, 92] = flat [92, 92] := by
  rw [flat_cons, flat_cons, flat_nil, made_small 92 (by omega)]; rfl
theorem ctl_f {c : Nat} (h : 32 ≤ c) (h2 : c ≠ 127) : ctl c = false := by
  unfold ctl; rw [decide_eq_false (by omega), beq_eq_false_iff_ne.2 h2]; rfl
def Good (cs : List Nat) : Prop := ∀ c ∈ cs, ctl c = false
theorem Good.app {a b : List Nat} (h : Good a) (k : Good b) : Good (a ++ b) := by
  intro c hc
  rcases List.mem_append.1 hc with hc | hc
  · exact h c hc
  · exact k c hc
theorem pcT_flat (l : List UInt8) : ∃ ps, AllC ps ∧ flat ps = pcT l ∧ Good ps := by
  have hb := byt_lt l 0
  have h1 := hdN_lt (d := byt l 0 / 16) (by omega)
  have h2 := hdN_lt (d := byt l 0 % 16) (by omega)
  have hx : ∃ ps, AllC ps ∧ flat ps = hexb (byt l 0) ∧ Good ps := by
    refine ⟨_, ?_, (hexb_flat _ hb).symm, ?_⟩
    · intro c hc
      simp only [List.mem_cons, List.not_mem_nil, or_false] at hc
      exact isC_small c (by omega)
    · intro c hc
      simp only [List.mem_cons, List.not_mem_nil, or_false] at hc
      exact ctl_f (by omega) (by omega)
  unfold pcT
  by_cases hf : fOk l = true
  · rw [if_pos hf]
    by_cases hc : ctl (fC l) = true
    · rw [if_pos hc]; exact hx
    · rw [if_neg hc]
      by_cases h92 : fC l = 92
      · rw [if_pos h92]
        refine ⟨[92, 92], ?_, bsl_flat.symm, ?_⟩
        · intro c hc
          simp only [List.mem_cons, List.not_mem_nil, or_false, or_self] at hc
          exact isC_small c (by omega)
        · intro c hc
          simp only [List.mem_cons, List.not_mem_nil, or_false, or_self] at hc
          exact ctl_f (by omega) (by omega)
      · rw [if_neg h92, take_first hf]
        refine ⟨[fC l], AllC.nil.cons (of_first hf).1, by rw [flat_cons, flat_nil, List.append_nil], ?_⟩
        intro c hc'
        simp only [List.mem_cons, List.not_mem_nil, or_false] at hc'
        rw [hc']; simpa using hc
  · rw [if_neg hf]; exact hx
theorem shown_flat : ∀ (n : Nat) (l : List UInt8), l.length ≤ n → ∃ ks, AllC ks ∧ flat ks = shown l ∧ Good ks
  | 0, l, hn => by
    obtain rfl : l = [] := List.length_eq_zero_iff.1 (by omega)
    exact ⟨[], AllC.nil, rfl, fun c hc => by cases hc⟩
  | n + 1, l, hn => by
    by_cases h : l = []
    · subst h; exact ⟨[], AllC.nil, rfl, fun c hc => by cases hc⟩
    · have hp := List.length_pos_iff.2 h
      have h1 := pcN_pos l
      obtain ⟨ps, a1, a2, a3⟩ := pcT_flat l
      obtain ⟨ks, b1, b2, b3⟩ := shown_flat n (l.drop (pcN l)) (by rw [List.length_drop]; omega)
      exact ⟨ps ++ ks, a1.app b1, by rw [flat_app, a2, b2, shown_step h], a3.app b3⟩

/-! ### What is shown tells what it is shown of -/
def unh (x : UInt8) : Nat := if x.toNat < 58 then x.toNat - 48 else x.toNat - 87
def uns : Nat → List UInt8 → List UInt8
  | 0, _ => []
  | _ + 1, [] => []
  | k + 1, a :: r => if a = 92 then (if r.head? = some 92 then 92 :: uns k (r.drop 1) else b8 (unh (r.getD 1 0) * 16 + unh (r.getD 2 0)) :: uns k (r.drop 3)) else a :: uns k r
theorem uns_cons (k : Nat) (a : UInt8) (r : List UInt8) : uns (k + 1) (a :: r) = if a = 92 then (if r.head? = some 92 then 92 :: uns k (r.drop 1) else b8 (unh (r.getD 1 0) * 16 + unh (r.getD 2 0)) :: uns k (r.drop 3)) else a :: uns k r := rfl
theorem uns_nil (k : Nat) : uns k [] = [] := by cases k <;> rfl
theorem uns_plain : ∀ (p : List UInt8) (k : Nat) (r : List UInt8), (∀ x ∈ p, x ≠ 92) → p.length ≤ k → uns k (p ++ r) = p ++ uns (k - p.length) r
  | [], k, r, _, _ => by simp
  | a :: p, k, r, h, hk => by
    rw [List.length_cons] at hk ⊢
    obtain ⟨j, rfl⟩ : ∃ j, k = j + 1 := ⟨k - 1, by omega⟩
    rw [List.cons_append, uns_cons]
    rw [if_neg (h a (by simp)), uns_plain p j r (fun x hx => h x (by simp [hx])) (by omega), Nat.add_sub_add_right]
    rfl
theorem unh_hd (d : Nat) (h : d < 16) : unh (hd d) = d := by
  have h16 : ∀ i : Fin 16, unh (hd i.val) = i.val := by decide +kernel
  exact h16 ⟨d, h⟩
theorem uns_hex (b k : Nat) (r : List UInt8) (h : b < 256) : uns (k + 1) (hexb b ++ r) = b8 b :: uns k r := by
  show uns (k + 1) (92 :: 120 :: hd (b / 16) :: hd (b % 16) :: r) = _
  rw [uns_cons, if_pos rfl, if_neg (by simp)]
  have e : unh (hd (b / 16)) * 16 + unh (hd (b % 16)) = b := by rw [unh_hd _ (by omega), unh_hd _ (by omega)]; omega
  show b8 (unh (hd (b / 16)) * 16 + unh (hd (b % 16))) :: uns k r = _
  rw [e]
theorem uns_bsl (k : Nat) (r : List UInt8) : uns (k + 1) ([92, 92] ++ r) = 92 :: uns k r := by
  show uns (k + 1) (92 :: 92 :: r) = _
  rw [uns_cons, if_pos rfl, if_pos (by rfl)]
  rfl
theorem made_not (c : Nat) (h : c ≠ 92) (hc : isC c = true) : ∀ x ∈ made c, x ≠ 92 := by
  have hb := (isC_iff c).1 hc
  have key : ∀ n, n < 256 → n ≠ 92 → b8 n ≠ 92 := by
    intro n hn h9 e
    have := congrArg UInt8.toNat e
    rw [b8_toNat n hn] at this
    exact h9 this
  intro x hx
  rcases four c with ⟨h1, _, e⟩ | ⟨h1, h2, _, e⟩ | ⟨h1, h2, _, e⟩ | ⟨h1, _, e⟩ <;> rw [e] at hx <;> simp only [List.mem_cons, List.not_mem_nil, or_false] at hx
  · subst hx; exact key _ (by omega) h
  · rcases hx with rfl | rfl <;> exact key _ (by omega) (by omega)
  · rcases hx with rfl | rfl | rfl <;> exact key _ (by omega) (by omega)
  · rcases hx with rfl | rfl | rfl | rfl <;> exact key _ (by omega) (by omega)
theorem head_cut {l : List UInt8} (h : l ≠ []) : l = b8 (byt l 0) :: l.drop 1 := by
  cases l with
  | nil => exact absurd rfl h
  | cons a r => rw [byt_cons0, b8_eq rfl]; rfl
theorem first_small {l : List UInt8} (h : fOk l = true) (hc : fC l < 128) : fN l = 1 ∧ byt l 0 = fC l := by
  obtain ⟨_, h2, h3⟩ := of_first h
  rcases four (fC l) with ⟨_, e1, e2⟩ | ⟨h1, _⟩ | ⟨h1, _⟩ | ⟨h1, _⟩
  · refine ⟨by rw [h2, e1], ?_⟩
    rw [e2] at h3
    have h4 : byt l 0 = byt ([b8 (fC l)] ++ l.drop (fN l)) 0 := by rw [← h3]
    rw [h4, List.cons_append, byt_cons0, b8_toNat _ (by omega)]
  all_goals omega
theorem uns_shown : ∀ (n : Nat) (l : List UInt8) (k : Nat), l.length ≤ n → (shown l).length ≤ k → uns k (shown l) = l
  | 0, l, k, hn, _ => by
    obtain rfl : l = [] := List.length_eq_zero_iff.1 (by omega)
    rw [shown_nil, uns_nil]
  | n + 1, l, k, hn, hk => by
    by_cases h : l = []
    · subst h; rw [shown_nil, uns_nil]
    · have hp := List.length_pos_iff.2 h
      have h1 := pcN_pos l
      have hb := byt_lt l 0
      have ih := fun j hj => uns_shown n (l.drop (pcN l)) j (by rw [List.length_drop]; omega) hj
      rw [shown_step h] at hk ⊢
      rw [List.length_append] at hk
      by_cases hf : fOk l = true
      · have hN : pcN l = fN l := by unfold pcN; rw [if_pos hf]
        by_cases hc : ctl (fC l) = true
        · have hT : pcT l = hexb (byt l 0) := by unfold pcT; rw [if_pos hf, if_pos hc]
          have hs : fC l < 128 := by
            unfold ctl at hc
            simp only [Bool.or_eq_true, decide_eq_true_eq, beq_iff_eq] at hc
            omega
          have hx : (hexb (byt l 0)).length = 4 := rfl
          rw [hT] at hk ⊢
          obtain ⟨j, rfl⟩ : ∃ j, k = j + 1 := ⟨k - 1, by omega⟩
          rw [uns_hex _ _ _ hb, ih j (by omega), hN, (first_small hf hs).1]
          exact (head_cut h).symm
        · by_cases h92 : fC l = 92
          · have hT : pcT l = [92, 92] := by unfold pcT; rw [if_pos hf, if_neg hc, if_pos h92]
            have hs := first_small hf (by omega)
            have hx : ([92, 92] : List UInt8).length = 2 := rfl
            rw [hT] at hk ⊢
            obtain ⟨j, rfl⟩ : ∃ j, k = j + 1 := ⟨k - 1, by omega⟩
            rw [uns_bsl, ih j (by omega), hN, hs.1]
            have h5 := head_cut h
            rw [hs.2, h92] at h5
            exact h5.symm
          · have hT : pcT l = made (fC l) := by unfold pcT; rw [if_pos hf, if_neg hc, if_neg h92, take_first hf]
            obtain ⟨g1, g2, g3⟩ := of_first hf
            rw [hT] at hk ⊢
            rw [uns_plain _ _ _ (made_not _ h92 g1) (by omega), ih _ (by omega), hN]
            exact g3.symm
      · have hN : pcN l = 1 := by unfold pcN; rw [if_neg hf]
        have hT : pcT l = hexb (byt l 0) := by unfold pcT; rw [if_neg hf]
        have hx : (hexb (byt l 0)).length = 4 := rfl
        rw [hT] at hk ⊢
        obtain ⟨j, rfl⟩ : ∃ j, k = j + 1 := ⟨k - 1, by omega⟩
        rw [uns_hex _ _ _ hb, ih j (by omega), hN]
        exact (head_cut h).symm
theorem shown_inj {a b : List UInt8} (h : shown a = shown b) : a = b := by
  have h1 := uns_shown a.length a (shown a).length (Nat.le_refl _) (Nat.le_refl _)
  have h2 := uns_shown b.length b (shown a).length (Nat.le_refl _) (by rw [h]; exact Nat.le_refl _)
  rw [← h1, ← h2, h]

/-! ### Plain text is shown as it is -/
theorem shown_same : ∀ (cs : List Nat), AllC cs → Good cs → (∀ c ∈ cs, c ≠ 92) → shown (flat cs) = flat cs
  | [], _, _, _ => rfl
  | c :: cs, ha, hg, h9 => by
    obtain ⟨f1, f2, f3⟩ := first_of c ha.head (flat cs)
    rw [flat_cons, shown_step (made_ne c _)]
    have hN : pcN (made c ++ flat cs) = lg c := by unfold pcN; rw [if_pos f1, f3]
    have hT : pcT (made c ++ flat cs) = made c := by
      unfold pcT
      rw [if_pos f1, f2, if_neg (by rw [hg c (by simp)]; simp), if_neg (h9 c (by simp)), f3, ← made_len]
      exact List.take_left
    rw [hT, hN, ← made_len, List.drop_left, shown_same cs ha.tail (fun x hx => hg x (by simp [hx])) (fun x hx => h9 x (by simp [hx]))]
theorem not92 {cs : List Nat} (h : (92 : UInt8) ∉ flat cs) : ∀ c ∈ cs, c ≠ 92 := by
  rintro c hc rfl
  apply h
  unfold flat
  rw [List.mem_flatMap]
  exact ⟨92, hc, by rw [made_small 92 (by omega)]; exact List.mem_cons_self⟩
end U4
end Go.Proofs.YthmnfffloioagaaDoor
