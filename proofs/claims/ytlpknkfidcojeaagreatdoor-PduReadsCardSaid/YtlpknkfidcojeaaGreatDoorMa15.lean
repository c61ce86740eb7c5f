/- Texts on the program and on the document, joined: PduP. -/
import Derived.Test.YtlpknkfidcojeaaGreatDoorMa10
import Derived.Test.YtlpknkfidcojeaaGreatDoorMa14
/- Units and their binds: which may be, their bodies, what is told, the shortest form: plain mathematics, of no program. -/
namespace Go.Proofs.YtlpknkfidcojeaaGreatDoor
open Go.RowKit K P1 B5
set_option linter.unusedVariables false
set_option linter.unusedSimpArgs false
namespace D8

/-! ### Elements, deep and one by one -/
theorem prs_inv8 {a : Nat} {s : List UInt8} {g : Fo} (h : prs a s = .ok g) (hs : s ≠ []) :
    nxOk s = true ∧ ((isMade (nxT s) = true ∧ ∃ cs r, prs (a + 1) (nxB s) = .ok cs ∧ prs a (nxR s) = .ok r ∧ g = .node (nxT s) cs r) ∨ (isMade (nxT s) = false ∧ ∃ r, prs a (nxR s) = .ok r ∧ g = .leaf (nxT s) (nxB s) r)) := by
  rw [prs_step hs] at h
  by_cases hx : nxOk s = true
  · rw [if_neg (by rw [hx]; simp)] at h
    by_cases ha : 32 < a
    · rw [if_pos ha] at h; cases h
    · rw [if_neg ha] at h
      by_cases hm : isMade (nxT s) = true
      · rw [if_pos hm] at h
        cases h1 : prs (a + 1) (nxB s) with
        | error e => rw [h1] at h; cases h
        | ok cs =>
          rw [h1] at h
          cases h2 : prs a (nxR s) with
          | error e => rw [h2] at h; cases h
          | ok r => rw [h2] at h; cases h; exact ⟨hx, .inl ⟨hm, cs, r, rfl, rfl, rfl⟩⟩
      · rw [if_neg hm] at h
        cases h2 : prs a (nxR s) with
        | error e => rw [h2] at h; cases h
        | ok r => rw [h2] at h; cases h; exact ⟨hx, .inr ⟨by simpa using hm, r, rfl, rfl⟩⟩
  · rw [Bool.not_eq_true] at hx
    rw [if_pos hx] at h; cases h
theorem prt_inv8 {c : Nat} {s : List UInt8} {ps : List (Nat × List UInt8)} (h : prt c s = .ok ps) (hs : s ≠ []) : nxOk s = true ∧ ∃ r, prt (c + 1) (nxR s) = .ok r ∧ ps = (nxT s, nxB s) :: r := by
  rw [prt_step hs] at h
  by_cases hx : nxOk s = true
  · rw [if_neg (by rw [hx]; simp)] at h
    by_cases hc : c = 4096
    · rw [if_pos hc] at h; cases h
    · rw [if_neg hc] at h
      cases hr : prt (c + 1) (nxR s) with
      | error e => rw [hr] at h; cases h
      | ok r => rw [hr] at h; cases h; exact ⟨hx, r, rfl, rfl⟩
  · rw [Bool.not_eq_true] at hx
    rw [if_pos hx] at h; cases h
/-- The shortest form of an element, whose parts stand so deep. -/
def cn (a : Nat) (p : Nat × List UInt8) : List UInt8 := put p.1 (if isMade p.1 then (match prs a p.2 with | .ok f => f.enc | .error _ => []) else p.2)
theorem cn_made {a : Nat} {p : Nat × List UInt8} {f : Fo} (hm : isMade p.1 = true) (hf : prs a p.2 = .ok f) : cn a p = put p.1 f.enc := by
  unfold cn; rw [if_pos hm, hf]
theorem cn_leaf {a : Nat} {p : Nat × List UInt8} (hm : isMade p.1 = false) : cn a p = put p.1 p.2 := by
  unfold cn; rw [if_neg (by rw [hm]; simp)]
theorem enc_parts : ∀ (n a c : Nat) (l : List UInt8) (f : Fo) (ps : List (Nat × List UInt8)), l.length ≤ n → prs a l = .ok f → prt c l = .ok ps →
    f.enc = ps.flatMap (cn (a + 1)) ∧ ∀ p ∈ ps, isMade p.1 = true → ∃ cs, prs (a + 1) p.2 = .ok cs
  | n, a, c, l, f, ps, hn, hf, hp => by
    by_cases hl : l = []
    · subst hl
      rw [prs_nil] at hf
      have hp' : (Except.ok [] : Except Nat (List (Nat × List UInt8))) = .ok ps := hp
      cases hf; cases hp'
      exact ⟨rfl, fun p hp => by cases hp⟩
    · cases n with
      | zero => exact absurd (List.length_eq_zero_iff.1 (by omega)) hl
      | succ n =>
        obtain ⟨hx, hw⟩ := prs_inv8 hf hl
        obtain ⟨_, q, hq, rfl⟩ := prt_inv8 hp hl
        obtain ⟨_, _, _, _, h5⟩ := nx_of hx
        rcases hw with ⟨hm, cs, r, hcs, hr, rfl⟩ | ⟨hm, r, hr, rfl⟩
        · obtain ⟨i1, i2⟩ := enc_parts n a (c + 1) (nxR l) r q (by omega) hr hq
          refine ⟨?_, fun p hp hpm => ?_⟩
          · show put (nxT l) cs.enc ++ r.enc = _
            rw [List.flatMap_cons, i1, cn_made (p := (nxT l, nxB l)) hm hcs]
          · rcases List.mem_cons.1 hp with h | h
            · subst h; exact ⟨cs, hcs⟩
            · exact i2 p h hpm
        · obtain ⟨i1, i2⟩ := enc_parts n a (c + 1) (nxR l) r q (by omega) hr hq
          refine ⟨?_, fun p hp hpm => ?_⟩
          · show put (nxT l) (nxB l) ++ r.enc = _
            rw [List.flatMap_cons, i1, cn_leaf (p := (nxT l, nxB l)) hm]
          · rcases List.mem_cons.1 hp with h | h
            · subst h
              have hpm' : isMade (nxT l) = true := hpm
              rw [hm] at hpm'; cases hpm'
            · exact i2 p h hpm

/-! ### Binds -/
structure Bd where
  o : List UInt8
  k : Int
  n : Int
  s : List UInt8
def Bd.ok (x : Bd) : Bool := (O6.arcs x.o).isSome && V7.ckV x.k x.n x.s
def Bd.body (x : Bd) : List UInt8 := put 6 (V7.ob x.o) ++ put x.k.toNat (V7.bdV x.k x.n x.s)
def Bd.fits (x : Bd) : Prop := -9223372036854775808 ≤ x.n ∧ x.n ≤ 9223372036854775807
/-- What an element tells as a bind. -/
def deB (p : Nat × List UInt8) : Option Bd :=
  match prt 0 p.2 with
  | .ok [q1, q2] => if p.1 = 48 ∧ q1.1 = 6 ∧ (deA q1.2).isSome = true ∧ V7.deOk (q2.1 : Nat) q2.2 = true then some ⟨deS q1.2, (q2.1 : Nat), (V7.rdV (q2.1 : Nat) q2.2).1, (V7.rdV (q2.1 : Nat) q2.2).2.1⟩ else none
  | _ => none
theorem short_le8 (m : Nat) : (short m).length ≤ 5 := by
  rw [short_len]; have := kb_pos m
  by_cases h : m < 128
  · rw [if_pos h]; omega
  · rw [if_neg h]; omega
theorem ob_facts {o : List UInt8} (h : (O6.arcs o).isSome = true) : (deA (V7.ob o)).isSome = true ∧ deS (V7.ob o) = o ∧ (V7.ob o).length ≤ 640 := by
  obtain ⟨l, hl⟩ := Option.isSome_iff_exists.1 h
  obtain ⟨h1, h2⟩ := (O6.arcs_iff _ _).1 hl
  have e : V7.ob o = eb l := by unfold V7.ob; rw [hl]; rfl
  rw [e]
  exact ⟨by rw [deA_eb h1]; rfl, by rw [(de_some (deA_eb h1)).2, h2], V7.eb_len h1⟩
theorem bd_parts {x : Bd} (h : x.ok = true) : prt 0 x.body = .ok [(6, V7.ob x.o), (x.k.toNat, V7.bdV x.k x.n x.s)] ∧ x.body.length ≤ 66300 := by
  unfold Bd.ok at h
  rw [Bool.and_eq_true] at h
  obtain ⟨o1, o2, o3⟩ := ob_facts h.1
  obtain ⟨t1, t2, t3, t4⟩ := V7.ck_tag h.2
  have hl := (V7.bd_len h.2).1
  constructor
  · have := prt_puts [(6, V7.ob x.o), (x.k.toNat, V7.bdV x.k x.n x.s)] 0 (by
      intro p hp
      rcases List.mem_cons.1 hp with h | h
      · subst h; exact ⟨(show isTag 6 = true by decide), (show (6 : Nat) < 256 by decide), by show (V7.ob x.o).length < _; omega⟩
      · have : p = (x.k.toNat, V7.bdV x.k x.n x.s) := by simpa using h
        subst this; exact ⟨t1, t2, by show (V7.bdV x.k x.n x.s).length < _; omega⟩) (by simp)
    rw [← this]
    simp [Bd.body]
  · unfold Bd.body
    rw [List.length_append, put_len, put_len]
    have h1 := short_le8 (V7.ob x.o).length
    have h2 := short_le8 (V7.bdV x.k x.n x.s).length
    omega
theorem bind_back {x : Bd} (h : x.ok = true) (hf : x.fits) : deB (48, x.body) = some x := by
  have hp := (bd_parts h).1
  unfold Bd.ok at h
  rw [Bool.and_eq_true] at h
  obtain ⟨o1, o2, o3⟩ := ob_facts h.1
  obtain ⟨t1, t2, t3, t4⟩ := V7.ck_tag h.2
  have hd := V7.de_bd hf.1 hf.2 h.2
  have hr := V7.rd_bd hf.1 hf.2 h.2
  unfold deB
  rw [hp]
  show (if (48 : Nat) = 48 ∧ (6 : Nat) = 6 ∧ (deA (V7.ob x.o)).isSome = true ∧ V7.deOk ((x.k.toNat : Nat) : Int) (V7.bdV x.k x.n x.s) = true then some (⟨deS (V7.ob x.o), ((x.k.toNat : Nat) : Int), (V7.rdV ((x.k.toNat : Nat) : Int) (V7.bdV x.k x.n x.s)).1, (V7.rdV ((x.k.toNat : Nat) : Int) (V7.bdV x.k x.n x.s)).2.1⟩ : Bd) else none) = _
  rw [t3, if_pos ⟨rfl, rfl, o1, hd⟩, hr, o2]
/-- What a bind's element tells. -/
theorem bind_told {p : Nat × List UInt8} {x : Bd} (h : deB p = some x) : p.1 = 48 ∧ x.ok = true ∧ ∃ q1 q2 : Nat × List UInt8, prt 0 p.2 = .ok [q1, q2] ∧ q1.1 = 6 ∧ V7.ob x.o = q1.2 ∧ x.k.toNat = q2.1 ∧ V7.bdV x.k x.n x.s = q2.2 ∧ isMade q2.1 = false := by
  unfold deB at h
  cases hp : prt 0 p.2 with
  | error e => rw [hp] at h; cases h
  | ok ps =>
    rw [hp] at h
    match ps, h with
    | [q1, q2], h =>
      have h' : (if p.1 = 48 ∧ q1.1 = 6 ∧ (deA q1.2).isSome = true ∧ V7.deOk (q2.1 : Nat) q2.2 = true then some (⟨deS q1.2, (q2.1 : Nat), (V7.rdV (q2.1 : Nat) q2.2).1, (V7.rdV (q2.1 : Nat) q2.2).2.1⟩ : Bd) else none) = some x := h
      by_cases hc : p.1 = 48 ∧ q1.1 = 6 ∧ (deA q1.2).isSome = true ∧ V7.deOk (q2.1 : Nat) q2.2 = true
      · rw [if_pos hc] at h'
        obtain rfl := Option.some.inj h'
        obtain ⟨c1, c2, c3, c4⟩ := hc
        obtain ⟨l, hl⟩ := Option.isSome_iff_exists.1 c3
        obtain ⟨i1, i2⟩ := deA_inv hl
        have hck := V7.ck_rd c4
        obtain ⟨t1, t2, t3, t4⟩ := V7.ck_tag hck
        rw [Int.toNat_natCast] at t4
        refine ⟨c1, ?_, q1, q2, rfl, c2, ?_, by simp, V7.bd_rd c4, t4⟩
        · unfold Bd.ok
          rw [Bool.and_eq_true]
          refine ⟨?_, hck⟩
          show (O6.arcs (deS q1.2)).isSome = true
          rw [(de_some hl).2, O6.arcs_put i1]; rfl
        · show V7.ob (deS q1.2) = q1.2
          rw [(de_some hl).2]
          unfold V7.ob
          rw [O6.arcs_put i1]
          exact i2
      · rw [if_neg hc] at h'; cases h'
/-- The shortest form of a bind's element. -/
theorem bind_short {a : Nat} {p : Nat × List UInt8} {x : Bd} (h : deB p = some x) (hm : ∃ cs, prs a p.2 = .ok cs) : cn a p = put 48 x.body := by
  obtain ⟨h48, _, q1, q2, hp, c1, c2, c3, c4, c5⟩ := bind_told h
  obtain ⟨cs, hcs⟩ := hm
  rw [cn_made (by rw [h48]; decide) hcs, h48]
  congr 1
  obtain ⟨e, _⟩ := enc_parts _ a 0 p.2 cs _ (Nat.le_refl _) hcs hp
  rw [e]
  show cn (a + 1) q1 ++ (cn (a + 1) q2 ++ []) = _
  rw [cn_leaf (p := q1) (by rw [c1]; decide), cn_leaf (p := q2) c5, List.append_nil]
  unfold Bd.body
  rw [c1, c2, c3, c4]

/-! ### Units -/
structure Un where
  t : Int
  r : Int
  a : Int
  i : Int
  l : List Bd
def Un.ok (u : Un) : Bool :=
  (u.t == 162 || (u.t == 166 || u.t == 167)) && ((decide (-2147483648 ≤ u.r) && decide (u.r ≤ 2147483647)) && ((decide (0 ≤ u.a) && decide (u.a ≤ 2147483647)) && ((decide (0 ≤ u.i) && decide (u.i ≤ 2147483647)) && (decide (u.l.length ≤ 4096) && u.l.all Bd.ok))))
def lst (l : List Bd) : List UInt8 := (l.map fun x : Bd => ((48, x.body) : Nat × List UInt8)).flatMap fun p => put p.1 p.2
def Un.body (u : Un) : List UInt8 := put 2 (pn u.r) ++ (put 2 (pn u.a) ++ (put 2 (pn u.i) ++ put 48 (lst u.l)))
def Un.el (u : Un) : List UInt8 := put u.t.toNat u.body
def deL : List (Nat × List UInt8) → Option (List Bd)
  | [] => some []
  | p :: ps => match deB p with
    | none => none
    | some x => match deL ps with
      | none => none
      | some l => some (x :: l)
def deU (t : Int) (b : List UInt8) : Option Un :=
  match prt 0 b with
  | .ok [p1, p2, p3, p4] =>
    if p1.1 = 2 ∧ p2.1 = 2 ∧ p3.1 = 2 ∧ p4.1 = 48 ∧ nOk p1.2 = true ∧ nOk p2.2 = true ∧ nOk p3.2 = true then
      match prt 0 p4.2 with
      | .ok ps => match deL ps with
        | some l => if Un.ok ⟨t, nv p1.2, nv p2.2, nv p3.2, l⟩ then some ⟨t, nv p1.2, nv p2.2, nv p3.2, l⟩ else none
        | none => none
      | .error _ => none
    else none
  | _ => none
theorem Un.ok_iff (u : Un) : u.ok = true ↔ (u.t = 162 ∨ u.t = 166 ∨ u.t = 167) ∧ (-2147483648 ≤ u.r ∧ u.r ≤ 2147483647) ∧ (0 ≤ u.a ∧ u.a ≤ 2147483647) ∧ (0 ≤ u.i ∧ u.i ≤ 2147483647) ∧ u.l.length ≤ 4096 ∧ ∀ x ∈ u.l, x.ok = true := by
  unfold Un.ok
  simp only [Bool.and_eq_true, Bool.or_eq_true, decide_eq_true_eq, beq_iff_eq, List.all_eq_true]
theorem lst_len : ∀ l : List Bd, (∀ x ∈ l, x.ok = true) → (lst l).length ≤ 66310 * l.length
  | [], _ => Nat.le_refl 0
  | x :: l, h => by
    have h1 := (bd_parts (h x (by simp))).2
    have h2 := lst_len l (fun y hy => h y (List.mem_cons_of_mem _ hy))
    have h3 := short_le8 x.body.length
    show (put 48 x.body ++ lst l).length ≤ _
    rw [List.length_append, put_len, List.length_cons]
    omega
theorem deL_back : ∀ l : List Bd, (∀ x ∈ l, x.ok = true ∧ x.fits) → deL (l.map fun x : Bd => ((48, x.body) : Nat × List UInt8)) = some l
  | [], _ => rfl
  | x :: l, h => by
    obtain ⟨h1, h2⟩ := h x (by simp)
    show (match deB (48, x.body) with | none => none | some x => match deL (l.map fun x : Bd => ((48, x.body) : Nat × List UInt8)) with | none => none | some l => some (x :: l)) = _
    rw [bind_back h1 h2, deL_back l (fun y hy => h y (List.mem_cons_of_mem _ hy))]
theorem un_parts {u : Un} (h : u.ok = true) : prt 0 u.body = .ok [(2, pn u.r), (2, pn u.a), (2, pn u.i), (48, lst u.l)] ∧ prt 0 (lst u.l) = .ok (u.l.map fun x : Bd => ((48, x.body) : Nat × List UInt8)) ∧ u.body.length ≤ 271700000 := by
  obtain ⟨_, h2, h3, h4, h5, h6⟩ := (Un.ok_iff u).1 h
  have hl := lst_len u.l h6
  have hl2 : (lst u.l).length ≤ 271605760 := by
    have : 66310 * u.l.length ≤ 66310 * 4096 := Nat.mul_le_mul_left _ h5
    omega
  have n1 := (pn_ok u.r (by omega) (by omega)).2.2.2
  have n2 := (pn_ok u.a (by omega) (by omega)).2.2.2
  have n3 := (pn_ok u.i (by omega) (by omega)).2.2.2
  refine ⟨?_, ?_, ?_⟩
  · have := prt_puts [(2, pn u.r), (2, pn u.a), (2, pn u.i), (48, lst u.l)] 0 (by
      intro p hp
      simp only [List.mem_cons, List.not_mem_nil, or_false] at hp
      rcases hp with h | h | h | h
      · subst h; exact ⟨(show isTag 2 = true by decide), (show (2 : Nat) < 256 by decide), by show (pn u.r).length < _; omega⟩
      · subst h; exact ⟨(show isTag 2 = true by decide), (show (2 : Nat) < 256 by decide), by show (pn u.a).length < _; omega⟩
      · subst h; exact ⟨(show isTag 2 = true by decide), (show (2 : Nat) < 256 by decide), by show (pn u.i).length < _; omega⟩
      · subst h; exact ⟨(show isTag 48 = true by decide), (show (48 : Nat) < 256 by decide), by show (lst u.l).length < _; omega⟩) (by simp)
    rw [← this]
    simp [Un.body]
  · exact prt_puts _ 0 (by
      intro p hp
      obtain ⟨x, hx, rfl⟩ := List.mem_map.1 hp
      have := (bd_parts (h6 x hx)).2
      exact ⟨(show isTag 48 = true by decide), (show (48 : Nat) < 256 by decide), by show x.body.length < _; omega⟩) (by rw [List.length_map]; omega)
  · unfold Un.body
    simp only [List.length_append, put_len]
    have s1 := short_le8 (pn u.r).length
    have s2 := short_le8 (pn u.a).length
    have s3 := short_le8 (pn u.i).length
    have s4 := short_le8 (lst u.l).length
    omega
/-- A unit that may be is told by its body. -/
theorem unit_back {u : Un} (h : u.ok = true) (hf : ∀ x ∈ u.l, x.fits) : deU u.t u.body = some u := by
  obtain ⟨p1, p2, _⟩ := un_parts h
  obtain ⟨_, h2, h3, h4, h5, h6⟩ := (Un.ok_iff u).1 h
  have n1 := pn_ok u.r (by omega) (by omega)
  have n2 := pn_ok u.a (by omega) (by omega)
  have n3 := pn_ok u.i (by omega) (by omega)
  unfold deU
  rw [p1]
  show (if (2 : Nat) = 2 ∧ (2 : Nat) = 2 ∧ (2 : Nat) = 2 ∧ (48 : Nat) = 48 ∧ nOk (pn u.r) = true ∧ nOk (pn u.a) = true ∧ nOk (pn u.i) = true then
      match prt 0 (lst u.l) with
      | .ok ps => match deL ps with
        | some l => if Un.ok ⟨u.t, nv (pn u.r), nv (pn u.a), nv (pn u.i), l⟩ then some (⟨u.t, nv (pn u.r), nv (pn u.a), nv (pn u.i), l⟩ : Un) else none
        | none => none
      | .error _ => none
    else none) = _
  rw [if_pos ⟨rfl, rfl, rfl, rfl, n1.1, n2.1, n3.1⟩, p2]
  show (match deL (u.l.map fun x : Bd => ((48, x.body) : Nat × List UInt8)) with
        | some l => if Un.ok ⟨u.t, nv (pn u.r), nv (pn u.a), nv (pn u.i), l⟩ then some (⟨u.t, nv (pn u.r), nv (pn u.a), nv (pn u.i), l⟩ : Un) else none
        | none => none) = _
  rw [deL_back u.l (fun x hx => ⟨h6 x hx, hf x hx⟩), n1.2.1, n2.2.1, n3.2.1]
  show (if u.ok = true then some u else none) = _
  rw [if_pos h]
theorem deL_told {a : Nat} : ∀ (ps : List (Nat × List UInt8)) (l : List Bd), deL ps = some l → (∀ p ∈ ps, isMade p.1 = true → ∃ cs, prs a p.2 = .ok cs) → ps.flatMap (cn a) = lst l
  | [], l, h, _ => by
    have h' : (some [] : Option (List Bd)) = some l := h
    obtain rfl := Option.some.inj h'
    rfl
  | p :: ps, l, h, hm => by
    have h' : (match deB p with | none => none | some x => match deL ps with | none => none | some l => some (x :: l)) = some l := h
    cases h1 : deB p with
    | none => rw [h1] at h'; cases h'
    | some x =>
      rw [h1] at h'
      cases h2 : deL ps with
      | none => rw [h2] at h'; cases h'
      | some l2 =>
        rw [h2] at h'
        obtain rfl := Option.some.inj h'
        have h48 := (bind_told h1).1
        rw [List.flatMap_cons, bind_short h1 (hm p (by simp) (by rw [h48]; decide)), deL_told ps l2 h2 (fun q hq => hm q (List.mem_cons_of_mem _ hq))]
        rfl
/-- A body that tells a unit: the unit may be, and the body's shortest form is the unit's. -/
theorem unit_told {t : Int} {b : List UInt8} {u : Un} (h : deU t b = some u) : u.ok = true ∧ u.t = t ∧ ∀ f, prs 2 b = .ok f → f.enc = u.body := by
  unfold deU at h
  cases hp : prt 0 b with
  | error e => rw [hp] at h; cases h
  | ok ps =>
    rw [hp] at h
    match ps, h with
    | [p1, p2, p3, p4], h =>
      have h' : (if p1.1 = 2 ∧ p2.1 = 2 ∧ p3.1 = 2 ∧ p4.1 = 48 ∧ nOk p1.2 = true ∧ nOk p2.2 = true ∧ nOk p3.2 = true then
          match prt 0 p4.2 with
          | .ok ps => match deL ps with
            | some l => if Un.ok ⟨t, nv p1.2, nv p2.2, nv p3.2, l⟩ then some (⟨t, nv p1.2, nv p2.2, nv p3.2, l⟩ : Un) else none
            | none => none
          | .error _ => none
        else none) = some u := h
      by_cases hc : p1.1 = 2 ∧ p2.1 = 2 ∧ p3.1 = 2 ∧ p4.1 = 48 ∧ nOk p1.2 = true ∧ nOk p2.2 = true ∧ nOk p3.2 = true
      · rw [if_pos hc] at h'
        obtain ⟨c1, c2, c3, c4, c5, c6, c7⟩ := hc
        cases hq : prt 0 p4.2 with
        | error e => rw [hq] at h'; cases h'
        | ok qs =>
          rw [hq] at h'
          have h2 : (match deL qs with
            | some l => if Un.ok ⟨t, nv p1.2, nv p2.2, nv p3.2, l⟩ then some (⟨t, nv p1.2, nv p2.2, nv p3.2, l⟩ : Un) else none
            | none => none) = some u := h'
          cases hl : deL qs with
          | none => rw [hl] at h2; cases h2
          | some l =>
            rw [hl] at h2
            have h3 : (if Un.ok ⟨t, nv p1.2, nv p2.2, nv p3.2, l⟩ then some (⟨t, nv p1.2, nv p2.2, nv p3.2, l⟩ : Un) else none) = some u := h2
            by_cases hk : Un.ok ⟨t, nv p1.2, nv p2.2, nv p3.2, l⟩ = true
            · rw [if_pos hk] at h3
              obtain rfl := Option.some.inj h3
              refine ⟨hk, rfl, fun f hf => ?_⟩
              obtain ⟨e, em⟩ := enc_parts _ 2 0 b f _ (Nat.le_refl _) hf hp
              obtain ⟨cs, hcs⟩ := em p4 (by simp) (by rw [c4]; decide)
              obtain ⟨e4, em4⟩ := enc_parts _ 3 0 p4.2 cs _ (Nat.le_refl _) hcs hq
              rw [e]
              show cn 3 p1 ++ (cn 3 p2 ++ (cn 3 p3 ++ (cn 3 p4 ++ []))) = _
              rw [cn_leaf (p := p1) (by rw [c1]; decide), cn_leaf (p := p2) (by rw [c2]; decide), cn_leaf (p := p3) (by rw [c3]; decide), cn_made (p := p4) (by rw [c4]; decide) hcs, List.append_nil, e4, deL_told qs l hl em4]
              unfold Un.body
              rw [V7.pn_nv c5, V7.pn_nv c6, V7.pn_nv c7, c1, c2, c3, c4]
            · rw [if_neg hk] at h3; cases h3
      · rw [if_neg hc] at h'; cases h'
/-- The shortest form of an element that tells a unit is the unit's. -/
theorem unit_short {t : Int} {b : List UInt8} {u : Un} (hb : b.length < 4294967296) (h : deU t b = some u) {f : Fo} (hw : wh (put t.toNat b) = .ok f) : f.enc = u.el := by
  obtain ⟨hok, ht, he⟩ := unit_told h
  obtain ⟨h1, _⟩ := (Un.ok_iff u).1 hok
  rw [ht] at h1
  have hT : isTag t.toNat = true ∧ t.toNat < 256 ∧ isMade t.toNat = true := by
    rcases h1 with h | h | h <;> (rw [h]; decide)
  obtain ⟨x1, x2, x3, x4⟩ := nx_put t.toNat b [] hT.1 hT.2.1 hb
  rw [List.append_nil] at x1 x2 x3 x4
  obtain ⟨_, _, hp⟩ := wh_inv hw
  obtain ⟨_, hway⟩ := prs_inv8 hp (nxOk_ne x1)
  rw [x2, x3, x4] at hway
  rcases hway with ⟨hm, cs, r, hcs, hr, rfl⟩ | ⟨hm, _⟩
  · rw [prs_nil] at hr
    cases hr
    show put t.toNat cs.enc ++ [] = _
    rw [List.append_nil, he cs hcs]
    unfold Un.el
    rw [ht]
  · rw [hT.2.2] at hm; cases hm
end D8
end Go.Proofs.YtlpknkfidcojeaaGreatDoor
