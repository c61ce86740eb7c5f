/- Texts of characters, what is shown of bytes, and where a text is cut: plain mathematics, of no program. -/
import Derived.Test.YtndinelljmjfaaaDoorUtfP
namespace Go.Proofs.YtndinelljmjfaaaDoor
open K
namespace U4

/-! ### Characters, one behind the other -/
def flat (cs : List Nat) : List UInt8 := cs.flatMap made
theorem flat_nil : flat [] = [] := rfl
theorem flat_cons (c : Nat) (cs : List Nat) : flat (c :: cs) = made c ++ flat cs := by simp [flat]
theorem flat_app (a b : List Nat) : flat (a ++ b) = flat a ++ flat b := by simp [flat]
def AllC (cs : List Nat) : Prop := ∀ c ∈ cs, isC c = true
theorem AllC.nil : AllC [] := by intro c h; cases h
theorem AllC.head {c : Nat} {cs : List Nat} (h : AllC (c :: cs)) : isC c = true := h c (by simp)
theorem AllC.tail {c : Nat} {cs : List Nat} (h : AllC (c :: cs)) : AllC cs := fun x hx => h x (by simp [hx])
theorem AllC.cons {c : Nat} {cs : List Nat} (h : isC c = true) (k : AllC cs) : AllC (c :: cs) := by
  intro x hx
  rcases List.mem_cons.1 hx with rfl | hx
  · exact h
  · exact k x hx
theorem AllC.app {a b : List Nat} (h : AllC a) (k : AllC b) : AllC (a ++ b) := by
  intro x hx
  rcases List.mem_append.1 hx with hx | hx
  · exact h x hx
  · exact k x hx
theorem AllC.left {a b : List Nat} (h : AllC (a ++ b)) : AllC a := fun x hx => h x (by simp [hx])
theorem AllC.right {a b : List Nat} (h : AllC (a ++ b)) : AllC b := fun x hx => h x (by simp [hx])
def dec : Nat → List UInt8 → Option (List Nat)
  | 0, l => if l.isEmpty then some [] else none
  | k + 1, l => if l.isEmpty then some [] else if fOk l then (dec k (l.drop (fN l))).map (fC l :: ·) else none
def chars (l : List UInt8) : Option (List Nat) := dec l.length l
theorem made_ne (c : Nat) (r : List UInt8) : made c ++ r ≠ [] := by
  intro h
  have := congrArg List.length h
  have h1 := lg_pos c
  rw [List.length_append, made_len] at this
  simp at this; omega
theorem dec_of : ∀ (cs : List Nat) (k : Nat), AllC cs → (flat cs).length ≤ k → dec k (flat cs) = some cs
  | [], k, _, _ => by cases k <;> rfl
  | c :: cs, k, ha, hk => by
    obtain ⟨h1, h2, h3⟩ := first_of c ha.head (flat cs)
    have hl := lg_pos c
    rw [flat_cons] at hk ⊢
    rw [List.length_append, made_len] at hk
    cases k with
    | zero => omega
    | succ k =>
      have he : (made c ++ flat cs).isEmpty = false := by rw [List.isEmpty_eq_false_iff]; exact made_ne c _
      unfold dec
      rw [he, h1, h2, h3]
      have hd : (made c ++ flat cs).drop (lg c) = flat cs := by rw [← made_len]; exact List.drop_left
      rw [hd, dec_of cs k ha.tail (by omega)]
      rfl
theorem of_dec : ∀ (k : Nat) (l : List UInt8) (cs : List Nat), dec k l = some cs → AllC cs ∧ flat cs = l
  | 0, l, cs, h => by
    unfold dec at h
    by_cases he : l.isEmpty = true
    · rw [if_pos he] at h; cases h
      exact ⟨AllC.nil, by rw [List.isEmpty_iff.1 he]; rfl⟩
    · rw [if_neg he] at h; cases h
  | k + 1, l, cs, h => by
    unfold dec at h
    by_cases he : l.isEmpty = true
    · rw [if_pos he] at h; cases h
      exact ⟨AllC.nil, by rw [List.isEmpty_iff.1 he]; rfl⟩
    · rw [if_neg he] at h
      by_cases hf : fOk l = true
      · rw [if_pos hf] at h
        obtain ⟨ds, h1, h2⟩ := Option.map_eq_some_iff.1 h
        obtain ⟨a1, a2⟩ := of_dec k _ _ h1
        obtain ⟨b1, b2, b3⟩ := of_first hf
        subst h2
        refine ⟨a1.cons b1, ?_⟩
        rw [flat_cons, a2, ← b3]
      · rw [if_neg hf] at h; cases h
theorem chars_iff (l : List UInt8) (cs : List Nat) : chars l = some cs ↔ AllC cs ∧ flat cs = l :=
  ⟨of_dec _ _ _, fun ⟨h1, h2⟩ => by subst h2; exact dec_of cs _ h1 (Nat.le_refl _)⟩
theorem chars_flat {cs : List Nat} (h : AllC cs) : chars (flat cs) = some cs := (chars_iff _ _).2 ⟨h, rfl⟩
theorem chars_nil : chars [] = some [] := rfl
theorem chars_bad {l : List UInt8} (h : l ≠ []) (hf : fOk l = false) : chars l = none := by
  unfold chars
  cases l with
  | nil => exact absurd rfl h
  | cons a r =>
    show dec (r.length + 1) (a :: r) = none
    unfold dec
    rw [hf]; rfl
theorem flat_pre : ∀ (pre ds : List Nat) (r : List UInt8), AllC pre → AllC ds → flat ds = flat pre ++ r → ∃ es, ds = pre ++ es ∧ flat es = r
  | [], ds, r, _, _, h => ⟨ds, rfl, by simpa [flat_nil] using h⟩
  | c :: pre, ds, r, hp, hd, h => by
    rw [flat_cons, List.append_assoc] at h
    cases ds with
    | nil => exact absurd h.symm (made_ne c _)
    | cons d ds =>
      obtain ⟨_, a2, a3⟩ := first_of d hd.head (flat ds)
      obtain ⟨_, b2, b3⟩ := first_of c hp.head (flat pre ++ r)
      rw [flat_cons] at h
      rw [h] at a2 a3
      obtain rfl : c = d := b2.symm.trans a2
      have h2 := List.append_cancel_left h
      obtain ⟨es, e1, e2⟩ := flat_pre pre ds r hp.tail hd.tail h2
      exact ⟨es, by rw [e1]; rfl, e2⟩
theorem chars_pre {pre : List Nat} (h : AllC pre) (r : List UInt8) : chars (flat pre ++ r) = (chars r).map (pre ++ ·) := by
  cases hr : chars r with
  | some cs =>
    obtain ⟨h1, h2⟩ := (chars_iff _ _).1 hr
    rw [Option.map_some, chars_iff]
    exact ⟨h.app h1, by rw [flat_app, h2]⟩
  | none =>
    rw [Option.map_none]
    cases hx : chars (flat pre ++ r) with
    | none => rfl
    | some ds =>
      obtain ⟨h1, h2⟩ := (chars_iff _ _).1 hx
      obtain ⟨es, e1, e2⟩ := flat_pre pre ds r h h1 h2
      subst e1
      rw [(chars_iff _ _).2 ⟨h1.right, e2⟩] at hr
      cases hr
def chE (l : List UInt8) : Nat := if (chars l).isSome then 0 else 40
def chL (l : List UInt8) : List Nat := (chars l).getD []
theorem chE_some {l : List UInt8} {cs : List Nat} (h : chars l = some cs) : chE l = 0 ∧ chL l = cs := by unfold chE chL; rw [h]; exact ⟨rfl, rfl⟩
theorem chE_none {l : List UInt8} (h : chars l = none) : chE l = 40 ∧ chL l = [] := by unfold chE chL; rw [h]; exact ⟨rfl, rfl⟩
theorem chE_cases (l : List UInt8) : (chE l = 0 ∧ ∃ cs, chars l = some cs ∧ chL l = cs ∧ AllC cs ∧ flat cs = l) ∨ (chE l = 40 ∧ chars l = none ∧ chL l = []) := by
  cases h : chars l with
  | some cs => exact .inl ⟨(chE_some h).1, cs, rfl, (chE_some h).2, (chars_iff _ _).1 h⟩
  | none => exact .inr ⟨(chE_none h).1, rfl, (chE_none h).2⟩
theorem flat_len (cs : List Nat) : cs.length ≤ (flat cs).length := by
  induction cs with
  | nil => simp [flat_nil]
  | cons c cs ih =>
    have := lg_pos c
    rw [flat_cons, List.length_append, made_len, List.length_cons]; omega

/-! ### What is shown -/
def hd (d : Nat) : UInt8 := b8 (if d < 10 then 48 + d else 87 + d)
def hexb (b : Nat) : List UInt8 := [92, 120, hd (b / 16), hd (b % 16)]
def ctl (c : Nat) : Bool := decide (c < 32) || c == 127
def pcT (l : List UInt8) : List UInt8 := if fOk l then (if ctl (fC l) then hexb (byt l 0) else if fC l = 92 then [92, 92] else l.take (fN l)) else hexb (byt l 0)
def pcN (l : List UInt8) : Nat := if fOk l then fN l else 1
def sh : Nat → List UInt8 → List UInt8
  | 0, _ => []
  | k + 1, l => if l.isEmpty then [] else pcT l ++ sh k (l.drop (pcN l))
def shown (l : List UInt8) : List UInt8 := sh l.length l
theorem pcN_pos (l : List UInt8) : 1 ≤ pcN l := by
  unfold pcN
  by_cases h : fOk l = true
  · rw [if_pos h]; exact (fN_le h).1
  · rw [if_neg h]; exact Nat.le_refl 1
theorem pcN_le {l : List UInt8} (h : l ≠ []) : pcN l ≤ l.length := by
  unfold pcN
  by_cases hf : fOk l = true
  · rw [if_pos hf]; exact (fN_le hf).2.2
  · rw [if_neg hf]; exact List.length_pos_iff.2 h
theorem sh_nil : ∀ k, sh k [] = [] | 0 => rfl | _ + 1 => rfl
theorem sh_more : ∀ (n k m : Nat) (l : List UInt8), l.length ≤ n → l.length ≤ k → l.length ≤ m → sh k l = sh m l
  | 0, k, m, l, hn, _, _ => by
    obtain rfl : l = [] := List.length_eq_zero_iff.1 (by omega)
    rw [sh_nil, sh_nil]
  | n + 1, k, m, l, hn, hk, hm => by
    by_cases h : l = []
    · subst h; rw [sh_nil, sh_nil]
    · have hp := List.length_pos_iff.2 h
      have h1 := pcN_pos l
      cases k with
      | zero => omega
      | succ k =>
        cases m with
        | zero => omega
        | succ m =>
          unfold sh
          rw [sh_more n k m (l.drop (pcN l)) (by rw [List.length_drop]; omega) (by rw [List.length_drop]; omega) (by rw [List.length_drop]; omega)]
theorem shown_nil : shown [] = [] := rfl
theorem shown_step {l : List UInt8} (h : l ≠ []) : shown l = pcT l ++ shown (l.drop (pcN l)) := by
  have hp := List.length_pos_iff.2 h
  have h1 := pcN_pos l
  unfold shown
  obtain ⟨k, hk⟩ : ∃ k, l.length = k + 1 := ⟨l.length - 1, by omega⟩
  have he : l.isEmpty = false := List.isEmpty_eq_false_iff.2 h
  rw [hk]
  conv => lhs; unfold sh
  rw [he, sh_more l.length k (l.drop (pcN l)).length (l.drop (pcN l)) (by rw [List.length_drop]; omega) (by rw [List.length_drop]; omega) (Nat.le_refl _)]
  rfl
theorem pcT_len (l : List UInt8) : (pcT l).length ≤ 4 := by
  unfold pcT
  by_cases hf : fOk l = true
  · rw [if_pos hf]
    by_cases h1 : ctl (fC l) = true
    · rw [if_pos h1]; simp [hexb]
    · rw [if_neg h1]
      by_cases h2 : fC l = 92
      · rw [if_pos h2]; simp
      · rw [if_neg h2, List.length_take]; have := fN_le hf; omega
  · rw [if_neg hf]; simp [hexb]
theorem shown_len : ∀ (n : Nat) (l : List UInt8), l.length ≤ n → (shown l).length ≤ 4 * l.length
  | 0, l, hn => by
    obtain rfl : l = [] := List.length_eq_zero_iff.1 (by omega)
    simp [shown_nil]
  | n + 1, l, hn => by
    by_cases h : l = []
    · subst h; simp [shown_nil]
    · have hp := List.length_pos_iff.2 h
      have h1 := pcN_pos l
      have h2 := pcT_len l
      have h3 := shown_len n (l.drop (pcN l)) (by rw [List.length_drop]; omega)
      rw [shown_step h, List.length_append]
      rw [List.length_drop] at h3
      omega

/-! ### Where a text is cut -/
def ctN : List Nat → Nat → Nat
  | [], _ => 0
  | c :: cs, m => if lg c ≤ m then lg c + ctN cs (m - lg c) else 0
theorem ctN_le : ∀ (cs : List Nat) (m : Nat), ctN cs m ≤ m ∧ ctN cs m ≤ (flat cs).length
  | [], m => by simp [ctN]
  | c :: cs, m => by
    unfold ctN
    rw [flat_cons, List.length_append, made_len]
    by_cases h : lg c ≤ m
    · rw [if_pos h]; have := ctN_le cs (m - lg c); omega
    · rw [if_neg h]; omega
theorem ctN_all : ∀ (cs : List Nat) (m : Nat), (flat cs).length ≤ m → ctN cs m = (flat cs).length
  | [], m, _ => rfl
  | c :: cs, m, h => by
    rw [flat_cons, List.length_append, made_len] at h ⊢
    unfold ctN
    rw [if_pos (by omega), ctN_all cs (m - lg c) (by omega)]
theorem byt_app_left (a b : List UInt8) (i : Nat) (h : i < a.length) : byt (a ++ b) i = byt a i := by simp [byt, List.getElem?_append_left h]
theorem byt_app_right (a b : List UInt8) (i : Nat) (h : a.length ≤ i) : byt (a ++ b) i = byt b (i - a.length) := by simp [byt, List.getElem?_append_right h]
/-- The first byte of a character follows none; all others do. -/
theorem made_foll (c : Nat) (h : isC c = true) : foll (byt (made c) 0) = false ∧ ∀ i, 1 ≤ i → i < lg c → foll (byt (made c) i) = true := by
  have hc := (isC_iff c).1 h
  rcases four c with ⟨h1, e1, e2⟩ | ⟨h1, h2, e1, e2⟩ | ⟨h1, h2, e1, e2⟩ | ⟨h1, e1, e2⟩ <;> rw [e1, e2]
  · refine ⟨?_, fun i a b => by omega⟩
    rw [byt_cons0, b8_toNat _ (by omega)]
    rw [← Bool.not_eq_true, foll_iff]; omega
  · refine ⟨?_, fun i a b => ?_⟩
    · rw [byt_cons0, b8_toNat _ (by omega)]
      rw [← Bool.not_eq_true, foll_iff]; omega
    · obtain rfl : i = 1 := by omega
      rw [byt_cons1, b8_toNat _ (by omega), foll_iff]; omega
  · refine ⟨?_, fun i a b => ?_⟩
    · rw [byt_cons0, b8_toNat _ (by omega)]
      rw [← Bool.not_eq_true, foll_iff]; omega
    · obtain rfl | rfl : i = 1 ∨ i = 2 := by omega
      · rw [byt_cons1, b8_toNat _ (by omega), foll_iff]; omega
      · rw [byt_cons2, b8_toNat _ (by omega), foll_iff]; omega
  · refine ⟨?_, fun i a b => ?_⟩
    · rw [byt_cons0, b8_toNat _ (by omega)]
      rw [← Bool.not_eq_true, foll_iff]; omega
    · obtain rfl | rfl | rfl : i = 1 ∨ i = 2 ∨ i = 3 := by omega
      · rw [byt_cons1, b8_toNat _ (by omega), foll_iff]; omega
      · rw [byt_cons2, b8_toNat _ (by omega), foll_iff]; omega
      · rw [byt_cons3, b8_toNat _ (by omega), foll_iff]; omega
theorem ctN_fol : ∀ (cs : List Nat) (m q : Nat), AllC cs → ctN cs m < q → q ≤ m → q < (flat cs).length → foll (byt (flat cs) q) = true
  | [], m, q, _, _, _, h => by simp [flat_nil] at h
  | c :: cs, m, q, ha, h1, h2, h3 => by
    have hl := made_len c
    rw [flat_cons] at h3 ⊢
    rw [List.length_append] at h3
    unfold ctN at h1
    by_cases h : lg c ≤ m
    · rw [if_pos h] at h1
      rw [byt_app_right _ _ _ (by omega)]
      exact ctN_fol cs (m - lg c) _ ha.tail (by omega) (by omega) (by omega)
    · rw [if_neg h] at h1
      rw [byt_app_left _ _ _ (by omega)]
      exact (made_foll c ha.head).2 q (by omega) (by omega)
theorem ctN_bd : ∀ (cs : List Nat) (m : Nat), AllC cs → ctN cs m = (flat cs).length ∨ foll (byt (flat cs) (ctN cs m)) = false
  | [], m, _ => .inl rfl
  | c :: cs, m, ha => by
    have hl := made_len c
    have hp := lg_pos c
    rw [flat_cons, List.length_append]
    unfold ctN
    by_cases h : lg c ≤ m
    · rw [if_pos h]
      rcases ctN_bd cs (m - lg c) ha.tail with e | e
      · left; omega
      · right
        rw [byt_app_right _ _ _ (by omega), hl, show lg c + ctN cs (m - lg c) - lg c = ctN cs (m - lg c) by omega]
        exact e
    · rw [if_neg h]
      right
      rw [byt_app_left _ _ _ (by omega)]
      exact (made_foll c ha.head).1
/-- What is cut off: a beginning of whole characters, and with the next one it would be too long. -/
theorem ctN_split : ∀ (cs : List Nat) (m : Nat), ∃ pre suf, cs = pre ++ suf ∧ ctN cs m = (flat pre).length ∧ (suf = [] ∨ ∃ c suf', suf = c :: suf' ∧ m < ctN cs m + lg c)
  | [], m => ⟨[], [], rfl, rfl, .inl rfl⟩
  | c :: cs, m => by
    unfold ctN
    by_cases h : lg c ≤ m
    · rw [if_pos h]
      obtain ⟨pre, suf, e1, e2, e3⟩ := ctN_split cs (m - lg c)
      refine ⟨c :: pre, suf, by rw [e1]; rfl, by rw [flat_cons, List.length_append, made_len, e2], ?_⟩
      rcases e3 with e3 | ⟨d, s', e3, e4⟩
      · exact .inl e3
      · exact .inr ⟨d, s', e3, by omega⟩
    · rw [if_neg h]
      exact ⟨[], c :: cs, rfl, rfl, .inr ⟨c, cs, rfl, by omega⟩⟩
def ctE (l : List UInt8) (m : Int) : Nat := if m < 0 then 1 else chE l
def ctT (l : List UInt8) (m : Int) : List UInt8 := if m < 0 then [] else if (chars l).isSome then l.take (ctN (chL l) m.toNat) else []
end U4
end Go.Proofs.YtndinelljmjfaaaDoor
