/- Texts on the program and on the document, joined: QuoA, QuqP. -/
import Derived.Test.YtonippapkmmkeaaDoorMa09
import Derived.Test.YtonippapkmmkeaaDoorMa07
/- The document's special, Escape and IsName, walked. -/
namespace Go.Proofs.YtonippapkmmkeaaDoor
open Go.ChangeShapes Go.WideShapes Go.ChangeAt Go.RowKit K Q10
set_option linter.unusedVariables false

def spN (n : Nat) : Bool := n == 34 || n == 92 || n == 93
theorem spc_of (b : UInt8) : spc b = spN b.toNat := by
  unfold spc spN
  have h : ∀ k : UInt8, (b == k) = (b.toNat == k.toNat) := fun k => by
    rw [Bool.eq_iff_iff, beq_iff_eq, beq_iff_eq]; exact ⟨fun e => by rw [e], fun e => UInt8.toNat_inj.1 e⟩
  rw [h 34, h 92, h 93]; rfl
theorem eqk (n k : Nat) : (((n : Nat) : Int) == ((k : Nat) : Int)) = (n == k) := by
  rw [Bool.eq_iff_iff, beq_iff_eq, beq_iff_eq]; omega
theorem cut1_run (l : List UInt8) (p : Nat) (h : p < l.length) : ∀ w, (Instr.slice 9 (.string (bs l)) (some (.int .i64 (p : Nat))) (some (.int .i64 ((p : Int) + 1))) none).run Tryd.prog w = .ok (.string (bs [l.getD p 0])) w := by
  intro w
  rw [run_slice_string w 9 _ .i64 .i64 _ _ Tryd.underlying9 (by omega) (by omega) (by rw [bs_size]; omega)]
  rw [show ((p : Nat) : Int).toNat = p by omega, show ((p : Int) + 1).toNat = p + 1 by omega, bs_extract, Nat.add_sub_cancel_left]
  rw [List.drop_eq_getElem_cons h, List.take_succ_cons, List.take_zero]
  simp [List.getD, List.getElem?_eq_getElem h]
theorem take_one (l : List UInt8) (p : Nat) (h : p < l.length) : l.take (p + 1) = l.take p ++ [l.getD p 0] := by
  rw [List.take_add_one, List.getElem?_eq_getElem h]
  simp [List.getD, List.getElem?_eq_getElem h]
theorem byt_getD (l : List UInt8) (p : Nat) : (l.getD p 0).toNat = byt l p := rfl
theorem esc_step (l : List UInt8) (p : Nat) (h : p < l.length) : esc (l.take (p + 1)) = esc (l.take p) ++ (if spN (byt l p) then [92, l.getD p 0] else [l.getD p 0]) := by
  rw [take_one l p h, esc_app, ← byt_getD, ← spc_of]
  congr 1
def EsRel (l : List UInt8) (w : World) (g : Nat) (v3 v4 : Value) (wr : World) : Prop :=
  ∃ p, p + g = l.length ∧ v3 = .string (bs (esc (l.take p))) ∧ v4 = .int .i64 (p : Nat) ∧ Dr w wr
/-! ### Names -/
def nbN (n : Nat) : Bool := decide (33 ≤ n) && decide (n ≤ 126) && !(n == 61) && !(n == 93) && !(n == 34)
theorem nb_of (b : UInt8) : nb b = nbN b.toNat := by
  unfold nb nbN
  have h : ∀ k : UInt8, (b == k) = (b.toNat == k.toNat) := fun k => by
    rw [Bool.eq_iff_iff, beq_iff_eq, beq_iff_eq]; exact ⟨fun e => by rw [e], fun e => UInt8.toNat_inj.1 e⟩
  rw [h 61, h 93, h 34]; rfl
theorem all_step (l : List UInt8) (p : Nat) (h : p < l.length) : (l.take (p + 1)).all nb = ((l.take p).all nb && nbN (byt l p)) := by
  rw [take_one l p h, List.all_append, ← byt_getD, ← nb_of]; simp
theorem isN_yes {l : List UInt8} (h0 : l ≠ []) (h1 : l.length ≤ 32) (h : (l.take l.length).all nb = true) : isN l = true := by
  rw [List.take_length] at h
  unfold isN
  rw [h]
  simp [h0, h1]
theorem isN_no {l : List UInt8} {p : Nat} (hp : p < l.length) (h : nbN (byt l p) = false) : isN l = false := by
  cases hi : isN l
  · rfl
  · exfalso
    unfold isN at hi
    simp only [Bool.and_eq_true, List.all_eq_true] at hi
    have := hi.2 (l.getD p 0) (by rw [List.getD_eq_getElem?_getD, List.getElem?_eq_getElem hp]; exact List.getElem_mem hp)
    rw [nb_of, byt_getD, h] at this
    cases this
def NaRel (l : List UInt8) (w : World) (g : Nat) (v3 : Value) (wr : World) : Prop :=
  ∃ p, p + g = l.length ∧ (l.take p).all nb = true ∧ v3 = .int .i64 (p : Nat) ∧ Dr w wr
end Go.Proofs.YtonippapkmmkeaaDoor
/- The program's reading of structured data, plainly; that it reads what the document does. Of no program. -/
namespace Go.Proofs.YtonippapkmmkeaaDoor
open K U4
set_option linter.unusedVariables false
set_option linter.unusedSimpArgs false
namespace Q10
/-- The bytes at the beginning that may be in names, and what stands behind. -/
def nmP (s : List UInt8) : List UInt8 := s.takeWhile nb
def nmQ (s : List UInt8) : List UInt8 := s.dropWhile nb
theorem nmP_split (s : List UInt8) : s = nmP s ++ nmQ s := (List.takeWhile_append_dropWhile).symm
theorem nmP_nb : ∀ (s : List UInt8), ∀ b ∈ nmP s, nb b = true
  | [], b, h => by simp [nmP] at h
  | a :: r, b, h => by
    unfold nmP at h
    rw [List.takeWhile_cons] at h
    split at h
    · next ha =>
      rcases List.mem_cons.1 h with rfl | h
      · exact ha
      · exact nmP_nb r b h
    · simp at h
/-- A reader that lives, or is dead: its rest. -/
def rst (r : Option (List UInt8)) : List UInt8 := r.getD []
def mk1 (c : UInt8) : Option (List UInt8) → Option (List UInt8)
  | some (b :: t) => if b = c then some t else none
  | _ => none
/-- What is escaped, up to what ends it. -/
def vaP : List UInt8 → List UInt8 × List UInt8
  | [] => ([], [])
  | [b] => if b = 34 ∨ b = 93 then ([], [b]) else ([b], [])
  | b :: c :: q => if b = 34 ∨ b = 93 then ([], b :: c :: q) else if b = 92 ∧ spc c = true then (c :: (vaP q).1, (vaP q).2) else (b :: (vaP (c :: q)).1, (vaP (c :: q)).2)
def pmP (r : Option (List UInt8)) : Pm × Option (List UInt8) :=
  let s2 := mk1 34 (mk1 61 (r.map nmQ))
  (⟨nmP (rst r), (vaP (rst s2)).1⟩, mk1 34 (s2.map fun s => (vaP s).2))
/-- Does it begin with c? What is behind that. -/
def tk (c : UInt8) : Option (List UInt8) → Option (List UInt8)
  | some (b :: t) => if b = c then some t else none
  | _ => none
def psP : Nat → Option (List UInt8) → List Pm × Option (List UInt8)
  | 0, r => ([], r)
  | k + 1, r =>
    match tk 32 r with
    | none => ([], r)
    | some t => ((pmP (some t)).1 :: (psP k (pmP (some t)).2).1, (psP k (pmP (some t)).2).2)
def elP (r : Option (List UInt8)) : El × Option (List UInt8) :=
  let x := psP 4097 (r.map nmQ)
  (⟨nmP (rst r), x.1⟩, mk1 93 x.2)
def lsP : Nat → Option (List UInt8) → List El × Option (List UInt8)
  | 0, r => ([], r)
  | k + 1, r =>
    match tk 91 r with
    | none => ([], r)
    | some t => ((elP (some t)).1 :: (lsP k (elP (some t)).2).1, (lsP k (elP (some t)).2).2)
theorem tk_none (c : UInt8) : tk c none = none := rfl
theorem tk_eq {c : UInt8} {r : Option (List UInt8)} {t : List UInt8} (h : tk c r = some t) : r = some (c :: t) := by
  unfold tk at h
  split at h
  · split at h
    · next hb => subst hb; simp only [Option.some.injEq] at h; rw [h]
    · cases h
  · cases h
theorem tk_self (c : UInt8) (t : List UInt8) : tk c (some (c :: t)) = some t := by simp [tk]
theorem mk1_eq {c : UInt8} {r : Option (List UInt8)} {t : List UInt8} (h : mk1 c r = some t) : r = some (c :: t) := tk_eq h
theorem mk1_self (c : UInt8) (t : List UInt8) : mk1 c (some (c :: t)) = some t := by simp [mk1]
theorem psP_none : ∀ k, psP k none = ([], none)
  | 0 => rfl
  | _ + 1 => rfl
theorem lsP_none : ∀ k, lsP k none = ([], none)
  | 0 => rfl
  | _ + 1 => rfl
/-! ### Values -/
theorem vl_va : ∀ (n : Nat) (s : List UInt8), s.length ≤ n → ∀ o r, (vl s = some (o, r) ↔ vaP s = (o, 34 :: r))
  | _, [], _, o, r => by simp [vl, vaP]
  | _, [b], _, o, r => by
    by_cases h : b = 34
    · subst h; simp [vl, vaP]
    · by_cases h' : b = 93
      · subst h'; simp [vl, vaP]
      · simp [vl, vaP, h, h']
  | 0, b :: c :: q, hn, o, r => by simp at hn
  | n + 1, b :: c :: q, hn, o, r => by
    simp only [List.length_cons] at hn
    by_cases h : b = 34
    · subst h; simp [vl, vaP]
    by_cases h' : b = 93
    · subst h'; simp [vl, vaP]
    have hor : ¬ (b = 34 ∨ b = 93) := fun e => e.elim h h'
    by_cases h3 : b = 92 ∧ spc c = true
    · have ih := vl_va n q (by omega)
      simp only [vl, vaP, if_neg h, if_neg h', if_neg hor, if_pos h3]
      cases hv : vl q with
      | none =>
        simp only [vc]
        constructor
        · intro e; cases e
        · intro e
          simp only [Prod.mk.injEq] at e
          have := (ih (vaP q).1 r).2 (Prod.ext rfl e.2)
          rw [hv] at this; cases this
      | some x =>
        have hx := (ih x.1 x.2).1 hv
        rw [hx]
        simp only [vc, Option.some.injEq, Prod.mk.injEq, List.cons.injEq, true_and]
    · have ih := vl_va n (c :: q) (by simp only [List.length_cons]; omega)
      simp only [vl, vaP, if_neg h, if_neg h', if_neg hor, if_neg h3]
      cases hv : vl (c :: q) with
      | none =>
        simp only [vc]
        constructor
        · intro e; cases e
        · intro e
          simp only [Prod.mk.injEq] at e
          have := (ih (vaP (c :: q)).1 r).2 (Prod.ext rfl e.2)
          rw [hv] at this; cases this
      | some x =>
        have hx := (ih x.1 x.2).1 hv
        rw [hx]
        simp only [vc, Option.some.injEq, Prod.mk.injEq, List.cons.injEq, true_and]
theorem vl_iff (s o r : List UInt8) : vl s = some (o, r) ↔ vaP s = (o, 34 :: r) := vl_va s.length s (Nat.le_refl _) o r
/-! ### Names -/
theorem nmP_head (s : List UInt8) : ∀ b t, nmQ s = b :: t → stp b = true → nmT s = nmP s ∧ nmR s = nmQ s := by
  intro b t h hb
  have := nm_app (n := nmP s) (r := nmQ s) (fun c hc => nb_stp (nmP_nb s c hc)) (fun c hc => by rw [h] at hc; simp only [List.head?_cons, Option.some.injEq] at hc; rw [← hc]; exact hb)
  rw [← nmP_split] at this
  exact this
theorem nmP_ok {n r : List UInt8} (h : ∀ b ∈ n, nb b = true) (hr : ∀ b t, r = b :: t → nb b = false) : nmP (n ++ r) = n ∧ nmQ (n ++ r) = r := by
  cases r with
  | nil =>
    rw [List.append_nil]
    refine ⟨?_, ?_⟩
    · unfold nmP
      rw [show n = n ++ [] by simp, List.takeWhile_append_of_pos h]; simp
    · unfold nmQ
      rw [show n = n ++ [] by simp, List.dropWhile_append_of_pos h]; simp
  | cons b t =>
    have hb := hr b t rfl
    refine ⟨?_, ?_⟩
    · unfold nmP; rw [List.takeWhile_append_of_pos h, List.takeWhile_cons]; simp [hb]
    · unfold nmQ; rw [List.dropWhile_append_of_pos h, List.dropWhile_cons]; simp [hb]
theorem nmR_head (s : List UInt8) : ∀ b t, nmR s = b :: t → stp b = true := by
  intro b t h
  have := List.head?_dropWhile_not (fun b => !stp b) s
  unfold nmR at h
  rw [h] at this
  simpa using this
theorem stp_nb {b : UInt8} (h : stp b = true) : nb b = false := by
  cases hn : nb b
  · rfl
  · rw [nb_stp hn] at h; cases h
theorem nm_all {s : List UInt8} (h : (nmT s).all nb = true) : nmP s = nmT s ∧ nmQ s = nmR s := by
  have := nmP_ok (n := nmT s) (r := nmR s) (List.all_eq_true.1 h) (fun b t e => stp_nb (nmR_head s b t e))
  rw [← nm_split] at this
  exact this
theorem isN_all {n : List UInt8} (h : isN n = true) : n.all nb = true := by
  unfold isN at h
  simp only [Bool.and_eq_true] at h
  exact h.2
/-! ### One param -/
theorem pmP_sound {t : List UInt8} {p : Pm} {r : List UInt8} (h : pmP (some t) = (p, some r)) : pm1 t = some (p, r) := by
  unfold pmP at h
  simp only [Option.map_some, Prod.mk.injEq] at h
  obtain ⟨hp, hm⟩ := h
  have h1 := mk1_eq hm
  cases h2 : mk1 34 (mk1 61 (some (nmQ t))) with
  | none => rw [h2] at h1; cases h1
  | some q =>
    rw [h2] at h1 hp
    simp only [Option.map_some, Option.some.injEq] at h1
    have h3 := mk1_eq h2
    have h4 := mk1_eq h3
    simp only [Option.some.injEq] at h4
    have h5 := nmP_head t 61 _ h4 rfl
    refine (pm1_iff t p r).2 ⟨q, by rw [h5.2, h4], ?_, ?_⟩
    · rw [← hp]; exact (vl_iff _ _ _).2 (Prod.ext rfl h1)
    · rw [← hp, h5.1]; rfl
theorem pmP_compl {t : List UInt8} {p : Pm} {r : List UInt8} (h : pm1 t = some (p, r)) (hn : p.n.all nb = true) : pmP (some t) = (p, some r) := by
  obtain ⟨q, h1, h2, h3⟩ := (pm1_iff t p r).1 h
  rw [h3] at hn
  obtain ⟨h4, h5⟩ := nm_all hn
  have h6 := (vl_iff _ _ _).1 h2
  unfold pmP
  simp only [Option.map_some, h5, h1, mk1_self, h6, rst, Option.getD_some, h4]
  rw [← h3]
/-! ### Params -/
theorem psP_sound : ∀ (k : Nat) (s : List UInt8) (ps : List Pm) (r : List UInt8), psP k (some s) = (ps, some r) → ps.length < k → prsL s = some (ps, r)
  | 0, s, ps, r, _, h => by omega
  | k + 1, s, ps, r, h, hk => by
    simp only [psP] at h
    cases ht : tk 32 (some s) with
    | none =>
      rw [ht] at h
      simp only [Prod.mk.injEq, Option.some.injEq] at h
      obtain ⟨rfl, rfl⟩ := h
      refine prsL_stop fun t e => ?_
      rw [e, tk_self] at ht; cases ht
    | some t =>
      rw [ht] at h
      simp only [Prod.mk.injEq] at h
      obtain ⟨h1, h2⟩ := h
      have hs := tk_eq ht
      simp only [Option.some.injEq] at hs
      cases hq : (pmP (some t)).2 with
      | none => rw [hq, psP_none] at h2; cases h2
      | some q =>
        rw [hq] at h1 h2
        have hp := pmP_sound (t := t) (p := (pmP (some t)).1) (r := q) (Prod.ext rfl hq)
        have hl : (psP k (some q)).1.length < k := by
          have := congrArg List.length h1; simp only [List.length_cons] at this; omega
        have ih := psP_sound k q _ r (Prod.ext rfl h2) hl
        rw [hs, prsL_step hp, ih, ← h1]; rfl
theorem psP_compl : ∀ (k : Nat) (s : List UInt8) (ps : List Pm) (r : List UInt8), prsL s = some (ps, r) → (∀ p ∈ ps, p.n.all nb = true) → ps.length < k → psP k (some s) = (ps, some r)
  | 0, s, ps, r, _, _, h => by omega
  | k + 1, s, ps, r, h, hn, hk => by
    by_cases hs : ∃ t, s = 32 :: t
    · obtain ⟨t, rfl⟩ := hs
      cases hp : pm1 t with
      | none => rw [prsL_none hp] at h; cases h
      | some x =>
        obtain ⟨p, q⟩ := x
        rw [prsL_step hp] at h
        obtain ⟨y, hy, he⟩ := Option.map_eq_some_iff.1 h
        simp only [Prod.mk.injEq] at he
        obtain ⟨rfl, rfl⟩ := he
        have h1 := pmP_compl hp (hn p (by simp))
        have ih := psP_compl k q y.1 y.2 hy (fun z hz => hn z (by simp [hz])) (by simpa using hk)
        simp only [psP, tk_self, h1, ih]
    · rw [prsL_stop (fun t e => hs ⟨t, e⟩)] at h
      simp only [Option.some.injEq, Prod.mk.injEq] at h
      obtain ⟨rfl, rfl⟩ := h
      have : tk 32 (some s) = none := by
        cases ht : tk 32 (some s) with
        | none => rfl
        | some t => exact absurd ⟨t, Option.some.inj (tk_eq ht)⟩ hs
      simp only [psP, this]
/-! ### One element -/
theorem elP_sound {s : List UInt8} {x : El} {z : List UInt8} (h : elP (some s) = (x, some z)) (hl : x.ps.length ≤ 4096) : one s = some (x, z) := by
  unfold elP at h
  simp only [Option.map_some, Prod.mk.injEq] at h
  obtain ⟨hx, hm⟩ := h
  have h1 := mk1_eq hm
  have h2 := psP_sound 4097 (nmQ s) _ _ (Prod.ext rfl h1) (by rw [← hx] at hl; exact Nat.lt_succ_of_le hl)
  have h3 : ∃ b t, nmQ s = b :: t ∧ stp b = true := by
    by_cases hs : ∃ t, nmQ s = 32 :: t
    · obtain ⟨t, ht⟩ := hs; exact ⟨32, t, ht, rfl⟩
    · rw [prsL_stop (fun t e => hs ⟨t, e⟩)] at h2
      simp only [Option.some.injEq, Prod.mk.injEq] at h2
      exact ⟨93, z, h2.2, rfl⟩
  obtain ⟨b, t, h4, h5⟩ := h3
  obtain ⟨h6, h7⟩ := nmP_head s b t h4 h5
  refine (one_iff s x z).2 ⟨by rw [← hx, h6]; rfl, ?_⟩
  rw [h7, h2, ← hx]
theorem elP_compl {s : List UInt8} {x : El} {z : List UInt8} (h : one s = some (x, z)) (hi : x.id.all nb = true) (hn : ∀ p ∈ x.ps, p.n.all nb = true) (hl : x.ps.length ≤ 4096) : elP (some s) = (x, some z) := by
  obtain ⟨h1, h2⟩ := (one_iff s x z).1 h
  rw [h1] at hi
  obtain ⟨h4, h5⟩ := nm_all hi
  have h6 := psP_compl 4097 (nmR s) _ _ h2 hn (by omega)
  unfold elP
  simp only [Option.map_some, h5, h6, mk1_self, rst, Option.getD_some, h4]
  rw [← h1]
/-! ### Elements -/
theorem lsP_sound : ∀ (k : Nat) (s : List UInt8) (l : List El) (r : List UInt8), lsP k (some s) = (l, some r) → (∀ x ∈ l, x.ps.length ≤ 4096) → l.length < k → elsL s = some (l, r)
  | 0, s, ps, r, _, _, h => by omega
  | k + 1, s, l, r, h, hb, hk => by
    simp only [lsP] at h
    cases ht : tk 91 (some s) with
    | none =>
      rw [ht] at h
      simp only [Prod.mk.injEq, Option.some.injEq] at h
      obtain ⟨rfl, rfl⟩ := h
      refine elsL_stop fun t e => ?_
      rw [e, tk_self] at ht; cases ht
    | some t =>
      rw [ht] at h
      simp only [Prod.mk.injEq] at h
      obtain ⟨h1, h2⟩ := h
      have hs := tk_eq ht
      simp only [Option.some.injEq] at hs
      cases hq : (elP (some t)).2 with
      | none => rw [hq, lsP_none] at h2; cases h2
      | some q =>
        rw [hq] at h1 h2
        have hp := elP_sound (s := t) (x := (elP (some t)).1) (z := q) (Prod.ext rfl hq) (hb _ (by rw [← h1]; simp))
        have hl : (lsP k (some q)).1.length < k := by
          have := congrArg List.length h1; simp only [List.length_cons] at this; omega
        have ih := lsP_sound k q _ r (Prod.ext rfl h2) (fun x hx => hb x (by rw [← h1]; simp [hx])) hl
        rw [hs, elsL_step hp, ih, ← h1]; rfl
theorem lsP_compl : ∀ (k : Nat) (s : List UInt8) (l : List El) (r : List UInt8), elsL s = some (l, r) → (∀ x ∈ l, elOk x = true) → l.length < k → lsP k (some s) = (l, some r)
  | 0, s, l, r, _, _, h => by omega
  | k + 1, s, l, r, h, hn, hk => by
    by_cases hs : ∃ t, s = 91 :: t
    · obtain ⟨t, rfl⟩ := hs
      cases hp : one t with
      | none => rw [elsL_none hp] at h; cases h
      | some x =>
        obtain ⟨x, q⟩ := x
        rw [elsL_step hp] at h
        obtain ⟨y, hy, he⟩ := Option.map_eq_some_iff.1 h
        simp only [Prod.mk.injEq] at he
        obtain ⟨rfl, rfl⟩ := he
        have hx := hn x (by simp)
        unfold elOk at hx
        simp only [Bool.and_eq_true, List.all_eq_true, decide_eq_true_eq] at hx
        have h1 := elP_compl hp (isN_all hx.1) (fun p hp => by
          have := hx.2.2 p hp
          unfold pmOk at this
          simp only [Bool.and_eq_true] at this
          exact isN_all this.1) hx.2.1
        have ih := lsP_compl k q y.1 y.2 hy (fun z hz => hn z (by simp [hz])) (by simpa using hk)
        simp only [lsP, tk_self, h1, ih]
    · rw [elsL_stop (fun t e => hs ⟨t, e⟩)] at h
      simp only [Option.some.injEq, Prod.mk.injEq] at h
      obtain ⟨rfl, rfl⟩ := h
      have : tk 91 (some s) = none := by
        cases ht : tk 91 (some s) with
        | none => rfl
        | some t => exact absurd ⟨t, Option.some.inj (tk_eq ht)⟩ hs
      simp only [lsP, this]
/-! ### Whole -/
theorem okL_len {l : List El} (h : okL l = true) : l.length ≤ 4096 := by
  unfold okL at h
  simp only [Bool.and_eq_true, decide_eq_true_eq] at h
  exact h.1
theorem pa_dash (r : List UInt8) : paL (45 :: r) = [] ∧ paR (45 :: r) = r ∧ paE (45 :: r) = 0 := by
  simp [paL, paR, paE, pa]
theorem pa_good {s : List UInt8} (h : ∀ r, s ≠ 45 :: r) {l : List El} {z : List UInt8} (hp : lsP 4097 (some s) = (l, some z)) (hl : l ≠ []) (hk : okL l = true) : paL s = l ∧ paR s = z ∧ paE s = 0 := by
  have h1 := lsP_sound 4097 s l z hp (fun x hx => by
    have := okL_all hk x hx
    unfold elOk at this
    simp only [Bool.and_eq_true, decide_eq_true_eq] at this
    exact this.2.1) (by have := okL_len hk; omega)
  have h2 := pa_els h h1 hl hk
  simp [paL, paR, paE, h2]
theorem pa_bad {s : List UInt8} (h : ∀ r, s ≠ 45 :: r) (hp : (lsP 4097 (some s)).2 = none ∨ (lsP 4097 (some s)).1 = [] ∨ okL (lsP 4097 (some s)).1 = false) : paL s = [] ∧ paR s = [] ∧ paE s = 100 := by
  have hn : pa s = none := by
    cases hpa : pa s with
    | none => rfl
    | some x =>
      exfalso
      obtain ⟨l, z⟩ := x
      cases s with
      | nil => cases hpa
      | cons b r =>
        have hb : b ≠ 45 := fun e => h r (by rw [e])
        simp only [pa, if_neg hb] at hpa
        split at hpa
        · next l' z' he =>
          split at hpa
          · next hc =>
            simp only [Option.some.injEq, Prod.mk.injEq] at hpa
            obtain ⟨rfl, rfl⟩ := hpa
            simp only [Bool.and_eq_true, Bool.not_eq_true'] at hc
            have h1 := lsP_compl 4097 (b :: r) l' z' he (okL_all hc.2) (by have := okL_len hc.2; omega)
            rw [h1] at hp
            simp only [Option.some_ne_none, false_or] at hp
            rcases hp with hp | hp
            · subst hp; simp at hc
            · rw [hc.2] at hp; cases hp
          · cases hpa
        · cases hpa
  simp [paL, paR, paE, hn]
end Q10
end Go.Proofs.YtonippapkmmkeaaDoor
