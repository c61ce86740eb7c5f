/- Texts on the program and on the document, joined: PduP, Arg. -/
import Derived.Test.YtmdibafofdghgaaGreatDoorMa08
import Derived.Test.YtmdibafofdghgaaGreatDoorMa12
import Derived.Test.YtmdibafofdghgaaGreatDoorMa01
import Derived.SizedLaws
import Derived.Deep.Slices
import Derived.Deep.Fields
import Derived.WideShapes
import Derived.ChangeArms
/- Units and their binds: which may be, their bodies, what is told, the shortest form: plain mathematics, of no program. -/
namespace Go.Proofs.YtmdibafofdghgaaGreatDoor
open Go.RowKit K P1 B5
set_option linter.unusedVariables false
set_option linter.unusedSimpArgs false
namespace D8

/-! ### Elements, deep and one by one -/
theorem prs_inv8 {a : Nat} {s : List UInt8} {g : Fo} (h : prs a s = .ok g) (hs : s ≠ []) :
    nxOk s = true ∧ ((isMade (nxT s) = true ∧ ∃ cs r, prs (a + 1) (nxB s) = .ok cs ∧ prs a (nxR s) = .ok r ∧ g = .node (nxT s) cs r) ∨ (isMade (nxT s) = false ∧ ∃ r, prs a (nxR s) = .ok r ∧ g = .leaf (nxT s) (nxB s) r)) := by
  rw [prs_step hs] at h
  by_cases hx : nxOk s = true
  · rw [if_neg (by rw [hx]; simp)] at h
    by_cases ha : 32 < a
    · rw [if_pos ha] at h; cases h
    · rw [if_neg ha] at h
      by_cases hm : isMade (nxT s) = true
      · rw [if_pos hm] at h
        cases h1 : prs (a + 1) (nxB s) with
        | error e => rw [h1] at h; cases h
        | ok cs =>
          rw [h1] at h
          cases h2 : prs a (nxR s) with
          | error e => rw [h2] at h; cases h
          | ok r => rw [h2] at h; cases h; exact ⟨hx, .inl ⟨hm, cs, r, rfl, rfl, rfl⟩⟩
      · rw [if_neg hm] at h
        cases h2 : prs a (nxR s) with
        | error e => rw [h2] at h; cases h
        | ok r => rw [h2] at h; cases h; exact ⟨hx, .inr ⟨by simpa using hm, r, rfl, rfl⟩⟩
  · rw [Bool.not_eq_true] at hx
    rw [if_pos hx] at h; cases h
theorem prt_inv8 {c : Nat} {s : List UInt8} {ps : List (Nat × List UInt8)} (h : prt c s = .ok ps) (hs : s ≠ []) : nxOk s = true ∧ ∃ r, prt (c + 1) (nxR s) = .ok r ∧ ps = (nxT s, nxB s) :: r := by
  rw [prt_step hs] at h
  by_cases hx : nxOk s = true
  · rw [if_neg (by rw [hx]; simp)] at h
    by_cases hc : c = 4096
    · rw [if_pos hc] at h; cases h
    · rw [if_neg hc] at h
      cases hr : prt (c + 1) (nxR s) with
      | error e => rw [hr] at h; cases h
      | ok r => rw [hr] at h; cases h; exact ⟨hx, r, rfl, rfl⟩
  · rw [Bool.not_eq_true] at hx
    rw [if_pos hx] at h; cases h
/-- The shortest form of an element, whose parts stand so deep. -/
def cn (a : Nat) (p : Nat × List UInt8) : List UInt8 := put p.1 (if isMade p.1 then (match prs a p.2 with | .ok f => f.enc | .error _ => []) else p.2)
theorem cn_made {a : Nat} {p : Nat × List UInt8} {f : Fo} (hm : isMade p.1 = true) (hf : prs a p.2 = .ok f) : cn a p = put p.1 f.enc := by
  unfold cn; rw [if_pos hm, hf]
theorem cn_leaf {a : Nat} {p : Nat × List UInt8} (hm : isMade p.1 = false) : cn a p = put p.1 p.2 := by
  unfold cn; rw [if_neg (by rw [hm]; simp)]
theorem enc_parts : ∀ (n a c : Nat) (l : List UInt8) (f : Fo) (ps : List (Nat × List UInt8)), l.length ≤ n → prs a l = .ok f → prt c l = .ok ps →
    f.enc = ps.flatMap (cn (a + 1)) ∧ ∀ p ∈ ps, isMade p.1 = true → ∃ cs, prs (a + 1) p.2 = .ok cs
  | n, a, c, l, f, ps, hn, hf, hp => by
    by_cases hl : l = []
    · subst hl
      rw [prs_nil] at hf
      have hp' : (Except.ok [] : Except Nat (List (Nat × List UInt8))) = .ok ps := hp
      cases hf; cases hp'
      exact ⟨rfl, fun p hp => by cases hp⟩
    · cases n with
      | zero => exact absurd (List.length_eq_zero_iff.1 (by omega)) hl
      | succ n =>
        obtain ⟨hx, hw⟩ := prs_inv8 hf hl
        obtain ⟨_, q, hq, rfl⟩ := prt_inv8 hp hl
        obtain ⟨_, _, _, _, h5⟩ := nx_of hx
        rcases hw with ⟨hm, cs, r, hcs, hr, rfl⟩ | ⟨hm, r, hr, rfl⟩
        · obtain ⟨i1, i2⟩ := enc_parts n a (c + 1) (nxR l) r q (by omega) hr hq
          refine ⟨?_, fun p hp hpm => ?_⟩
          · show put (nxT l) cs.enc ++ r.enc = _
            rw [List.flatMap_cons, i1, cn_made (p := (nxT l, nxB l)) hm hcs]
          · rcases List.mem_cons.1 hp with h | h
            · subst h; exact ⟨cs, hcs⟩
            · exact i2 p h hpm
        · obtain ⟨i1, i2⟩ := enc_parts n a (c + 1) (nxR l) r q (by omega) hr hq
          refine ⟨?_, fun p hp hpm => ?_⟩
          · show put (nxT l) (nxB l) ++ r.enc = _
            rw [List.flatMap_cons, i1, cn_leaf (p := (nxT l, nxB l)) hm]
          · rcases List.mem_cons.1 hp with h | h
            · subst h
              have hpm' : isMade (nxT l) = true := hpm
              rw [hm] at hpm'; cases hpm'
            · exact i2 p h hpm

/-! ### Binds -/
structure Bd where
  o : List UInt8
  k : Int
  n : Int
  s : List UInt8
def Bd.ok (x : Bd) : Bool := (O6.arcs x.o).isSome && V7.ckV x.k x.n x.s
def Bd.body (x : Bd) : List UInt8 := put 6 (V7.ob x.o) ++ put x.k.toNat (V7.bdV x.k x.n x.s)
def Bd.fits (x : Bd) : Prop := -9223372036854775808 ≤ x.n ∧ x.n ≤ 9223372036854775807
/-- What an element tells as a bind. -/
def deB (p : Nat × List UInt8) : Option Bd :=
  match prt 0 p.2 with
  | .ok [q1, q2] => if p.1 = 48 ∧ q1.1 = 6 ∧ (deA q1.2).isSome = true ∧ V7.deOk (q2.1 : Nat) q2.2 = true then some ⟨deS q1.2, (q2.1 : Nat), (V7.rdV (q2.1 : Nat) q2.2).1, (V7.rdV (q2.1 : Nat) q2.2).2.1⟩ else none
  | _ => none
theorem short_le8 (m : Nat) : (short m).length ≤ 5 := by
  rw [short_len]; have := kb_pos m
  by_cases h : m < 128
  · rw [if_pos h]; omega
  · rw [if_neg h]; omega
theorem ob_facts {o : List UInt8} (h : (O6.arcs o).isSome = true) : (deA (V7.ob o)).isSome = true ∧ deS (V7.ob o) = o ∧ (V7.ob o).length ≤ 640 := by
  obtain ⟨l, hl⟩ := Option.isSome_iff_exists.1 h
  obtain ⟨h1, h2⟩ := (O6.arcs_iff _ _).1 hl
  have e : V7.ob o = eb l := by unfold V7.ob; rw [hl]; rfl
  rw [e]
  exact ⟨by rw [deA_eb h1]; rfl, by rw [(de_some (deA_eb h1)).2, h2], V7.eb_len h1⟩
theorem bd_parts {x : Bd} (h : x.ok = true) : prt 0 x.body = .ok [(6, V7.ob x.o), (x.k.toNat, V7.bdV x.k x.n x.s)] ∧ x.body.length ≤ 66300 := by
  unfold Bd.ok at h
  rw [Bool.and_eq_true] at h
  obtain ⟨o1, o2, o3⟩ := ob_facts h.1
  obtain ⟨t1, t2, t3, t4⟩ := V7.ck_tag h.2
  have hl := (V7.bd_len h.2).1
  constructor
  · have := prt_puts [(6, V7.ob x.o), (x.k.toNat, V7.bdV x.k x.n x.s)] 0 (by
      intro p hp
      rcases List.mem_cons.1 hp with h | h
      · subst h; exact ⟨(show isTag 6 = true by decide), (show (6 : Nat) < 256 by decide), by show (V7.ob x.o).length < _; omega⟩
      · have : p = (x.k.toNat, V7.bdV x.k x.n x.s) := by simpa using h
        subst this; exact ⟨t1, t2, by show (V7.bdV x.k x.n x.s).length < _; omega⟩) (by simp)
    rw [← this]
    simp [Bd.body]
  · unfold Bd.body
    rw [List.length_append, put_len, put_len]
    have h1 := short_le8 (V7.ob x.o).length
    have h2 := short_le8 (V7.bdV x.k x.n x.s).length
    omega
theorem bind_back {x : Bd} (h : x.ok = true) (hf : x.fits) : deB (48, x.body) = some x := by
  have hp := (bd_parts h).1
  unfold Bd.ok at h
  rw [Bool.and_eq_true] at h
  obtain ⟨o1, o2, o3⟩ := ob_facts h.1
  obtain ⟨t1, t2, t3, t4⟩ := V7.ck_tag h.2
  have hd := V7.de_bd hf.1 hf.2 h.2
  have hr := V7.rd_bd hf.1 hf.2 h.2
  unfold deB
  rw [hp]
  show (if (48 : Nat) = 48 ∧ (6 : Nat) = 6 ∧ (deA (V7.ob x.o)).isSome = true ∧ V7.deOk ((x.k.toNat : Nat) : Int) (V7.bdV x.k x.n x.s) = true then some (⟨deS (V7.ob x.o), ((x.k.toNat : Nat) : Int), (V7.rdV ((x.k.toNat : Nat) : Int) (V7.bdV x.k x.n x.s)).1, (V7.rdV ((x.k.toNat : Nat) : Int) (V7.bdV x.k x.n x.s)).2.1⟩ : Bd) else none) = _
  rw [t3, if_pos ⟨rfl, rfl, o1, hd⟩, hr, o2]
/-- What a bind's element tells. -/
theorem bind_told {p : Nat × List UInt8} {x : Bd} (h : deB p = some x) : p.1 = 48 ∧ x.ok = true ∧ ∃ q1 q2 : Nat × List UInt8, prt 0 p.2 = .ok [q1, q2] ∧ q1.1 = 6 ∧ V7.ob x.o = q1.2 ∧ x.k.toNat = q2.1 ∧ V7.bdV x.k x.n x.s = q2.2 ∧ isMade q2.1 = false := by
  unfold deB at h
  cases hp : prt 0 p.2 with
  | error e => rw [hp] at h; cases h
  | ok ps =>
    rw [hp] at h
    match ps, h with
    | [q1, q2], h =>
      have h' : (if p.1 = 48 ∧ q1.1 = 6 ∧ (deA q1.2).isSome = true ∧ V7.deOk (q2.1 : Nat) q2.2 = true then some (⟨deS q1.2, (q2.1 : Nat), (V7.rdV (q2.1 : Nat) q2.2).1, (V7.rdV (q2.1 : Nat) q2.2).2.1⟩ : Bd) else none) = some x := h
      by_cases hc : p.1 = 48 ∧ q1.1 = 6 ∧ (deA q1.2).isSome = true ∧ V7.deOk (q2.1 : Nat) q2.2 = true
      · rw [if_pos hc] at h'
        obtain rfl := Option.some.inj h'
        obtain ⟨c1, c2, c3, c4⟩ := hc
        obtain ⟨l, hl⟩ := Option.isSome_iff_exists.1 c3
        obtain ⟨i1, i2⟩ := deA_inv hl
        have hck := V7.ck_rd c4
        obtain ⟨t1, t2, t3, t4⟩ := V7.ck_tag hck
        rw [Int.toNat_natCast] at t4
        refine ⟨c1, ?_, q1, q2, rfl, c2, ?_, by simp, V7.bd_rd c4, t4⟩
        · unfold Bd.ok
          rw [Bool.and_eq_true]
          refine ⟨?_, hck⟩
          show (O6.arcs (deS q1.2)).isSome = true
          rw [(de_some hl).2, O6.arcs_put i1]; rfl
        · show V7.ob (deS q1.2) = q1.2
          rw [(de_some hl).2]
          unfold V7.ob
          rw [O6.arcs_put i1]
          exact i2
      · rw [if_neg hc] at h'; cases h'
/-- The shortest form of a bind's element. -/
theorem bind_short {a : Nat} {p : Nat × List UInt8} {x : Bd} (h : deB p = some x) (hm : ∃ cs, prs a p.2 = .ok cs) : cn a p = put 48 x.body := by
  obtain ⟨h48, _, q1, q2, hp, c1, c2, c3, c4, c5⟩ := bind_told h
  obtain ⟨cs, hcs⟩ := hm
  rw [cn_made (by rw [h48]; decide) hcs, h48]
  congr 1
  obtain ⟨e, _⟩ := enc_parts _ a 0 p.2 cs _ (Nat.le_refl _) hcs hp
  rw [e]
  show cn (a + 1) q1 ++ (cn (a + 1) q2 ++ []) = _
  rw [cn_leaf (p := q1) (by rw [c1]; decide), cn_leaf (p := q2) c5, List.append_nil]
  unfold Bd.body
  rw [c1, c2, c3, c4]

/-! ### Units -/
structure Un where
  t : Int
  r : Int
  a : Int
  i : Int
  l : List Bd
def Un.ok (u : Un) : Bool :=
  (u.t == 162 || (u.t == 166 || u.t == 167)) && ((decide (-2147483648 ≤ u.r) && decide (u.r ≤ 2147483647)) && ((decide (0 ≤ u.a) && decide (u.a ≤ 2147483647)) && ((decide (0 ≤ u.i) && decide (u.i ≤ 2147483647)) && (decide (u.l.length ≤ 4096) && u.l.all Bd.ok))))
def lst (l : List Bd) : List UInt8 := (l.map fun x : Bd => ((48, x.body) : Nat × List UInt8)).flatMap fun p => put p.1 p.2
def Un.body (u : Un) : List UInt8 := put 2 (pn u.r) ++ (put 2 (pn u.a) ++ (put 2 (pn u.i) ++ put 48 (lst u.l)))
def Un.el (u : Un) : List UInt8 := put u.t.toNat u.body
def deL : List (Nat × List UInt8) → Option (List Bd)
  | [] => some []
  | p :: ps => match deB p with
    | none => none
    | some x => match deL ps with
      | none => none
      | some l => some (x :: l)
def deU (t : Int) (b : List UInt8) : Option Un :=
  match prt 0 b with
  | .ok [p1, p2, p3, p4] =>
    if p1.1 = 2 ∧ p2.1 = 2 ∧ p3.1 = 2 ∧ p4.1 = 48 ∧ nOk p1.2 = true ∧ nOk p2.2 = true ∧ nOk p3.2 = true then
      match prt 0 p4.2 with
      | .ok ps => match deL ps with
        | some l => if Un.ok ⟨t, nv p1.2, nv p2.2, nv p3.2, l⟩ then some ⟨t, nv p1.2, nv p2.2, nv p3.2, l⟩ else none
        | none => none
      | .error _ => none
    else none
  | _ => none
theorem Un.ok_iff (u : Un) : u.ok = true ↔ (u.t = 162 ∨ u.t = 166 ∨ u.t = 167) ∧ (-2147483648 ≤ u.r ∧ u.r ≤ 2147483647) ∧ (0 ≤ u.a ∧ u.a ≤ 2147483647) ∧ (0 ≤ u.i ∧ u.i ≤ 2147483647) ∧ u.l.length ≤ 4096 ∧ ∀ x ∈ u.l, x.ok = true := by
  unfold Un.ok
  simp only [Bool.and_eq_true, Bool.or_eq_true, decide_eq_true_eq, beq_iff_eq, List.all_eq_true]
theorem lst_len : ∀ l : List Bd, (∀ x ∈ l, x.ok = true) → (lst l).length ≤ 66310 * l.length
  | [], _ => Nat.le_refl 0
  | x :: l, h => by
    have h1 := (bd_parts (h x (by simp))).2
    have h2 := lst_len l (fun y hy => h y (List.mem_cons_of_mem _ hy))
    have h3 := short_le8 x.body.length
    show (put 48 x.body ++ lst l).length ≤ _
    rw [List.length_append, put_len, List.length_cons]
    omega
theorem deL_back : ∀ l : List Bd, (∀ x ∈ l, x.ok = true ∧ x.fits) → deL (l.map fun x : Bd => ((48, x.body) : Nat × List UInt8)) = some l
  | [], _ => rfl
  | x :: l, h => by
    obtain ⟨h1, h2⟩ := h x (by simp)
    show (match deB (48, x.body) with | none => none | some x => match deL (l.map fun x : Bd => ((48, x.body) : Nat × List UInt8)) with | none => none | some l => some (x :: l)) = _
    rw [bind_back h1 h2, deL_back l (fun y hy => h y (List.mem_cons_of_mem _ hy))]
theorem un_parts {u : Un} (h : u.ok = true) : prt 0 u.body = .ok [(2, pn u.r), (2, pn u.a), (2, pn u.i), (48, lst u.l)] ∧ prt 0 (lst u.l) = .ok (u.l.map fun x : Bd => ((48, x.body) : Nat × List UInt8)) ∧ u.body.length ≤ 271700000 := by
  obtain ⟨_, h2, h3, h4, h5, h6⟩ := (Un.ok_iff u).1 h
  have hl := lst_len u.l h6
  have hl2 : (lst u.l).length ≤ 271605760 := by
    have : 66310 * u.l.length ≤ 66310 * 4096 := Nat.mul_le_mul_left _ h5
    omega
  have n1 := (pn_ok u.r (by omega) (by omega)).2.2.2
  have n2 := (pn_ok u.a (by omega) (by omega)).2.2.2
  have n3 := (pn_ok u.i (by omega) (by omega)).2.2.2
  refine ⟨?_, ?_, ?_⟩
  · have := prt_puts [(2, pn u.r), (2, pn u.a), (2, pn u.i), (48, lst u.l)] 0 (by
      intro p hp
      simp only [List.mem_cons, List.not_mem_nil, or_false] at hp
      rcases hp with h | h | h | h
      · subst h; exact ⟨(show isTag 2 = true by decide), (show (2 : Nat) < 256 by decide), by show (pn u.r).length < _; omega⟩
      · subst h; exact ⟨(show isTag 2 = true by decide), (show (2 : Nat) < 256 by decide), by show (pn u.a).length < _; omega⟩
      · subst h; exact ⟨(show isTag 2 = true by decide), (show (2 : Nat) < 256 by decide), by show (pn u.i).length < _; omega⟩
      · subst h; exact ⟨(show isTag 48 = true by decide), (show (48 : Nat) < 256 by decide), by show (lst u.l).length < _; omega⟩) (by simp)
    rw [← this]
    simp [Un.body]
  · exact prt_puts _ 0 (by
      intro p hp
      obtain ⟨x, hx, rfl⟩ := List.mem_map.1 hp
      have := (bd_parts (h6 x hx)).2
      exact ⟨(show isTag 48 = true by decide), (show (48 : Nat) < 256 by decide), by show x.body.length < _; omega⟩) (by rw [List.length_map]; omega)
  · unfold Un.body
    simp only [List.length_append, put_len]
    have s1 := short_le8 (pn u.r).length
    have s2 := short_le8 (pn u.a).length
    have s3 := short_le8 (pn u.i).length
    have s4 := short_le8 (lst u.l).length
    omega
/-- A unit that may be is told by its body. -/
theorem unit_back {u : Un} (h : u.ok = true) (hf : ∀ x ∈ u.l, x.fits) : deU u.t u.body = some u := by
  obtain ⟨p1, p2, _⟩ := un_parts h
  obtain ⟨_, h2, h3, h4, h5, h6⟩ := (Un.ok_iff u).1 h
  have n1 := pn_ok u.r (by omega) (by omega)
  have n2 := pn_ok u.a (by omega) (by omega)
  have n3 := pn_ok u.i (by omega) (by omega)
  unfold deU
  rw [p1]
  show (if (2 : Nat) = 2 ∧ (2 : Nat) = 2 ∧ (2 : Nat) = 2 ∧ (48 : Nat) = 48 ∧ nOk (pn u.r) = true ∧ nOk (pn u.a) = true ∧ nOk (pn u.i) = true then
      match prt 0 (lst u.l) with
      | .ok ps => match deL ps with
        | some l => if Un.ok ⟨u.t, nv (pn u.r), nv (pn u.a), nv (pn u.i), l⟩ then some (⟨u.t, nv (pn u.r), nv (pn u.a), nv (pn u.i), l⟩ : Un) else none
        | none => none
      | .error _ => none
    else none) = _
  rw [if_pos ⟨rfl, rfl, rfl, rfl, n1.1, n2.1, n3.1⟩, p2]
  show (match deL (u.l.map fun x : Bd => ((48, x.body) : Nat × List UInt8)) with
        | some l => if Un.ok ⟨u.t, nv (pn u.r), nv (pn u.a), nv (pn u.i), l⟩ then some (⟨u.t, nv (pn u.r), nv (pn u.a), nv (pn u.i), l⟩ : Un) else none
        | none => none) = _
  rw [deL_back u.l (fun x hx => ⟨h6 x hx, hf x hx⟩), n1.2.1, n2.2.1, n3.2.1]
  show (if u.ok = true then some u else none) = _
  rw [if_pos h]
theorem deL_told {a : Nat} : ∀ (ps : List (Nat × List UInt8)) (l : List Bd), deL ps = some l → (∀ p ∈ ps, isMade p.1 = true → ∃ cs, prs a p.2 = .ok cs) → ps.flatMap (cn a) = lst l
  | [], l, h, _ => by
    have h' : (some [] : Option (List Bd)) = some l := h
    obtain rfl := Option.some.inj h'
    rfl
  | p :: ps, l, h, hm => by
    have h' : (match deB p with | none => none | some x => match deL ps with | none => none | some l => some (x :: l)) = some l := h
    cases h1 : deB p with
    | none => rw [h1] at h'; cases h'
    | some x =>
      rw [h1] at h'
      cases h2 : deL ps with
      | none => rw [h2] at h'; cases h'
      | some l2 =>
        rw [h2] at h'
        obtain rfl := Option.some.inj h'
        have h48 := (bind_told h1).1
        rw [List.flatMap_cons, bind_short h1 (hm p (by simp) (by rw [h48]; decide)), deL_told ps l2 h2 (fun q hq => hm q (List.mem_cons_of_mem _ hq))]
        rfl
/-- A body that tells a unit: the unit may be, and the body's shortest form is the unit's. -/
theorem unit_told {t : Int} {b : List UInt8} {u : Un} (h : deU t b = some u) : u.ok = true ∧ u.t = t ∧ ∀ f, prs 2 b = .ok f → f.enc = u.body := by
  unfold deU at h
  cases hp : prt 0 b with
  | error e => rw [hp] at h; cases h
  | ok ps =>
    rw [hp] at h
    match ps, h with
    | [p1, p2, p3, p4], h =>
      have h' : (if p1.1 = 2 ∧ p2.1 = 2 ∧ p3.1 = 2 ∧ p4.1 = 48 ∧ nOk p1.2 = true ∧ nOk p2.2 = true ∧ nOk p3.2 = true then
          match prt 0 p4.2 with
          | .ok ps => match deL ps with
            | some l => if Un.ok ⟨t, nv p1.2, nv p2.2, nv p3.2, l⟩ then some (⟨t, nv p1.2, nv p2.2, nv p3.2, l⟩ : Un) else none
            | none => none
          | .error _ => none
        else none) = some u := h
      by_cases hc : p1.1 = 2 ∧ p2.1 = 2 ∧ p3.1 = 2 ∧ p4.1 = 48 ∧ nOk p1.2 = true ∧ nOk p2.2 = true ∧ nOk p3.2 = true
      · rw [if_pos hc] at h'
        obtain ⟨c1, c2, c3, c4, c5, c6, c7⟩ := hc
        cases hq : prt 0 p4.2 with
        | error e => rw [hq] at h'; cases h'
        | ok qs =>
          rw [hq] at h'
          have h2 : (match deL qs with
            | some l => if Un.ok ⟨t, nv p1.2, nv p2.2, nv p3.2, l⟩ then some (⟨t, nv p1.2, nv p2.2, nv p3.2, l⟩ : Un) else none
            | none => none) = some u := h'
          cases hl : deL qs with
          | none => rw [hl] at h2; cases h2
          | some l =>
            rw [hl] at h2
            have h3 : (if Un.ok ⟨t, nv p1.2, nv p2.2, nv p3.2, l⟩ then some (⟨t, nv p1.2, nv p2.2, nv p3.2, l⟩ : Un) else none) = some u := h2
            by_cases hk : Un.ok ⟨t, nv p1.2, nv p2.2, nv p3.2, l⟩ = true
            · rw [if_pos hk] at h3
              obtain rfl := Option.some.inj h3
              refine ⟨hk, rfl, fun f hf => ?_⟩
              obtain ⟨e, em⟩ := enc_parts _ 2 0 b f _ (Nat.le_refl _) hf hp
              obtain ⟨cs, hcs⟩ := em p4 (by simp) (by rw [c4]; decide)
              obtain ⟨e4, em4⟩ := enc_parts _ 3 0 p4.2 cs _ (Nat.le_refl _) hcs hq
              rw [e]
              show cn 3 p1 ++ (cn 3 p2 ++ (cn 3 p3 ++ (cn 3 p4 ++ []))) = _
              rw [cn_leaf (p := p1) (by rw [c1]; decide), cn_leaf (p := p2) (by rw [c2]; decide), cn_leaf (p := p3) (by rw [c3]; decide), cn_made (p := p4) (by rw [c4]; decide) hcs, List.append_nil, e4, deL_told qs l hl em4]
              unfold Un.body
              rw [V7.pn_nv c5, V7.pn_nv c6, V7.pn_nv c7, c1, c2, c3, c4]
            · rw [if_neg hk] at h3; cases h3
      · rw [if_neg hc] at h'; cases h'
/-- The shortest form of an element that tells a unit is the unit's. -/
theorem unit_short {t : Int} {b : List UInt8} {u : Un} (hb : b.length < 4294967296) (h : deU t b = some u) {f : Fo} (hw : wh (put t.toNat b) = .ok f) : f.enc = u.el := by
  obtain ⟨hok, ht, he⟩ := unit_told h
  obtain ⟨h1, _⟩ := (Un.ok_iff u).1 hok
  rw [ht] at h1
  have hT : isTag t.toNat = true ∧ t.toNat < 256 ∧ isMade t.toNat = true := by
    rcases h1 with h | h | h <;> (rw [h]; decide)
  obtain ⟨x1, x2, x3, x4⟩ := nx_put t.toNat b [] hT.1 hT.2.1 hb
  rw [List.append_nil] at x1 x2 x3 x4
  obtain ⟨_, _, hp⟩ := wh_inv hw
  obtain ⟨_, hway⟩ := prs_inv8 hp (nxOk_ne x1)
  rw [x2, x3, x4] at hway
  rcases hway with ⟨hm, cs, r, hcs, hr, rfl⟩ | ⟨hm, _⟩
  · rw [prs_nil] at hr
    cases hr
    show put t.toNat cs.enc ++ [] = _
    rw [List.append_nil, he cs hcs]
    unfold Un.el
    rw [ht]
  · rw [hT.2.2] at hm; cases hm
end D8
end Go.Proofs.YtmdibafofdghgaaGreatDoor
/- What an argument's reading gives: its cells, typed, and that no string, slice or map takes more than the reach. Of no program. -/
namespace Go.Proofs.YtmdibafofdghgaaGreatDoor
open Go.RowKit
namespace K
set_option linter.unusedVariables false

/-- These cells read as a value of type t, and what is read lies within the reach. -/
def Rdg (P : Program) (w : World) (t : TypeId) (cs : List Value) : Prop :=
  ∃ (H : Type) (enc : TypeId × Value → H) (fuel : Nat) (x : DataW H × List MemPlace), DataW.trod enc P w 0 (fun _ => true) true fuel t cs = some x ∧ ∀ n ∈ x.1.weights P t, n ≤ reachBytes

theorem Rdg.of {H : Type} {enc : TypeId × Value → H} {P : Program} {w : World} {t : TypeId} {v : Value} {d : DataW H} {p : List MemPlace} (h : DataW.Trod enc P w 0 (fun _ => true) true t v d p)
    {ts : List TypeId} {ds : List (DataW H)} (hs : (DataW.weightsEach P ts ds).all (· ≤ reachBytes) = true) {j : Nat} (ht : ts[j]? = some t) (hd : ds[j]? = some d) : Rdg P w t v.cells.toList := by
  obtain ⟨fuel, hf⟩ := h
  refine ⟨H, enc, fuel, (d, p), hf, fun n hn => ?_⟩
  have := List.all_eq_true.1 hs n (DataW.weights_mem_each ht hd n hn)
  simpa using this

section
variable {P : Program} {w : World} {t e : TypeId} {cs : List Value}

theorem Rdg.int {k : IntKind} (h : Rdg P w t cs) (ht : P.underlying t = some (.int k)) : ∃ n, cs = [.int k n] ∧ (Lit.int k n).wf = true := by
  obtain ⟨H, enc, fuel, x, hx, _⟩ := h
  obtain ⟨n, h1, _, h2⟩ := DataW.trod_int ht hx
  exact ⟨n, h1, h2⟩

theorem Rdg.string (h : Rdg P w t cs) (ht : P.underlying t = some .string) : ∃ l : List UInt8, cs = [.string (bs l)] ∧ l.length ≤ reachBytes := by
  obtain ⟨H, enc, fuel, x, hx, hw⟩ := h
  obtain ⟨s, h1, h2, _⟩ := DataW.trod_string ht hx
  subst h2
  refine ⟨s.data.toList, by rw [bs_of]; exact h1, hw _ (by simp [DataW.weights])⟩

theorem Rdg.bool (h : Rdg P w t cs) (ht : P.underlying t = some .bool) : ∃ b, cs = [.bool b] := by
  obtain ⟨H, enc, fuel, x, hx, _⟩ := h
  cases fuel with
  | zero => simp [DataW.trod] at hx
  | succ n =>
    unfold DataW.trod at hx
    rw [ht] at hx
    split at hx <;> simp_all

/-- Cells of a slice's elements, one behind the other. -/
def Row (w : World) (b off : Nat) (n : Nat) (f : Nat → Value) : Prop := b < w.heap.size ∧ ∀ i, i < n → w.cell? ⟨b, off + i, none⟩ = some (f i)

theorem Rdg.slice {C : Nat} (h : Rdg P w t cs) (ht : P.underlying t = some (.slice e)) (hC : P.cellsOf e = C) (hpos : 0 < C) :
    ∃ (ao : Option Addr) (len cap : Nat), cs = [.slice ao len cap] ∧ len ≤ cap ∧ cap * P.bytesOf e ≤ reachBytes ∧ cap ≤ maxLen ∧
      (len = 0 ∨ ∃ b off f, ao = some ⟨b, off, none⟩ ∧ Row w b off (len * C) f ∧ ∀ i, i < len → Rdg P w e ((List.range C).map fun j => f (i * C + j))) := by
  obtain ⟨H, enc, fuel, x, hx, hw⟩ := h
  rcases Deep.open_slice ht hx with ⟨rfl, rfl⟩ | ⟨a, len, cap, m, n, D, Pl, hcs, _, hl, hm, hmm, hxx, hi⟩
  · exact ⟨none, 0, 0, rfl, Nat.le_refl _, by simp, by simp, .inl rfl⟩
  · subst hcs
    subst hxx
    simp only [if_true] at hmm
    subst hmm
    have hw0 := hw ((((List.range len).map D).length + ((List.range (m - len)).map fun j => D (len + j)).length) * P.bytesOf e) (by simp [DataW.weights, ht])
    simp only [List.length_map, List.length_range] at hw0
    rw [show len + (m - len) = m by omega] at hw0
    refine ⟨some a, len, m, rfl, hl, hw0, hm, ?_⟩
    rcases Nat.eq_zero_or_pos len with h0 | h0
    · exact .inl h0
    · right
      have hcell : ∀ i j, i < m → j < C → ∃ v, w.cell? ((a.add (i * C)).add j) = some v := by
        intro i j hi' hj
        obtain ⟨cs', h1, _⟩ := hi i hi'
        rw [hC] at h1
        obtain ⟨_, h2, h3⟩ := World.cells?_some h1
        exact ⟨_, (h3 j hj).trans (List.getElem?_eq_getElem (by omega))⟩
      obtain ⟨v0, hv0⟩ := hcell 0 0 (by omega) hpos
      have hadd0 : (a.add (0 * C)).add 0 = a := by simp [Addr.add]
      rw [hadd0] at hv0
      have hsp : a.spot = none := by
        cases hs : a.spot with
        | none => rfl
        | some s =>
          exfalso
          unfold World.cell? at hv0
          split at hv0
          · simp [hs] at hv0
          · cases hv0
      have ha : a = ⟨a.block, a.off, none⟩ := by cases a; simp_all
      have hadd : ∀ k, a.add k = ⟨a.block, a.off + k, none⟩ := by
        intro k
        rw [ha]
        unfold Addr.add
        split
        · subst_vars; rfl
        · rfl
      have hlin : ∀ i j, (a.add (i * C)).add j = ⟨a.block, a.off + (i * C + j), none⟩ := by
        intro i j; rw [Deep.add_add, hadd]
      refine ⟨a.block, a.off, fun k => (w.cell? ⟨a.block, a.off + k, none⟩).getD undef, by rw [← ha], ⟨World.block_lt_of_cell? w a hv0, ?_⟩, ?_⟩
      · intro k hk
        have hd : k / C < len := Nat.div_lt_of_lt_mul (by rw [Nat.mul_comm]; exact hk)
        obtain ⟨v, hv⟩ := hcell (k / C) (k % C) (by omega) (Nat.mod_lt _ hpos)
        rw [hlin, Nat.mul_comm, Nat.div_add_mod] at hv
        show _ = some ((w.cell? ⟨a.block, a.off + k, none⟩).getD undef)
        rw [hv]; rfl
      · intro i hil
        obtain ⟨cs', h1, h2⟩ := hi i (by omega)
        rw [hC] at h1
        obtain ⟨_, h3, h4⟩ := World.cells?_some h1
        have e1 : cs' = (List.range C).map fun j => (w.cell? ⟨a.block, a.off + (i * C + j), none⟩).getD undef := by
          apply List.ext_getElem
          · simp [h3]
          · intro j hj1 hj2
            have hj : j < C := by omega
            have := h4 j hj
            rw [hlin] at this
            simp [this, List.getElem?_eq_getElem hj1]
        refine ⟨H, enc, n, (D i, Pl i), by rw [← e1]; exact h2, fun q hq => hw q ?_⟩
        simp only [DataW.weights, ht, List.mem_cons, List.mem_append]
        right; left
        have hmem : ∀ (l : List (DataW H)), D i ∈ l → q ∈ DataW.weightsAll P e l := by
          intro l
          induction l with
          | nil => intro hm; simp at hm
          | cons d l ih =>
            intro hm
            simp only [DataW.weightsAll, List.mem_append]
            rcases List.mem_cons.1 hm with h5 | h5
            · left; rw [← h5]; exact hq
            · right; exact ih h5
        exact hmem _ (List.mem_map.2 ⟨i, by simpa using hil, rfl⟩)

theorem Rdg.struct {fs : Array Field} (h : Rdg P w t cs) (ht : P.underlying t = some (.struct fs)) :
    cs.length = P.cellsOf t ∧ ∀ (i : Nat) (f : Field), fs[i]? = some f → Rdg P w f.type ((cs.drop f.offset).take (P.cellsOf f.type)) := by
  obtain ⟨H, enc, fuel, x, hx, hw⟩ := h
  obtain ⟨xs, n, _, hxx, hl, hlen, hf⟩ := DataW.trod_struct ht hx
  refine ⟨hl, fun i f hi => ?_⟩
  have h1 := hf i f hi
  have hil : i < fs.size := (Array.getElem?_eq_some_iff.1 hi).1
  rw [List.getElem?_eq_getElem (by omega)] at h1
  refine ⟨H, enc, n, _, h1, fun q hq => hw q ?_⟩
  subst hxx
  simp only [DataW.weights, ht]
  refine DataW.weights_mem_each (j := i) (t := f.type) (d := (xs[i]'(by omega)).1) ?_ ?_ q hq
  · simp [hi]
  · simp [List.getElem?_eq_getElem (show i < xs.length by omega)]

theorem Rdg.fields {fs : Array Field} (h : Rdg P w t cs) (ht : P.underlying t = some (.struct fs)) (hone : Deep.oneCellFields P fs = true) :
    cs.length = P.cellsOf t ∧ ∀ (i : Nat) (T : TypeId), (fs[i]?).map (·.type) = some T → i < cs.length → ∃ v, cs[i]? = some v ∧ Rdg P w T [v] := by
  obtain ⟨hl, hf⟩ := h.struct ht
  refine ⟨hl, fun i T hi hlt => ?_⟩
  obtain ⟨f, hfi, rfl⟩ := Option.map_eq_some_iff.1 hi
  obtain ⟨ho, hk⟩ := Deep.hone_of hone i f hfi
  have h1 := hf i f hfi
  rw [ho, hk] at h1
  refine ⟨cs[i], List.getElem?_eq_getElem hlt, ?_⟩
  have : (cs.drop i).take 1 = [cs[i]] := by
    rw [List.drop_eq_getElem_cons hlt]; rfl
  rw [this] at h1
  exact h1
/-- A struct of two integers. -/
theorem Rdg.ints2 {fs : Array Field} {k : IntKind} {T : TypeId} {v0 v1 : Value} (h : Rdg P w t [v0, v1]) (ht : P.underlying t = some (.struct fs)) (hone : Deep.oneCellFields P fs = true)
    (h0 : (fs[0]?).map (·.type) = some T) (h1 : (fs[1]?).map (·.type) = some T) (hT : P.underlying T = some (.int k)) :
    ∃ x y, v0 = .int k x ∧ v1 = .int k y ∧ (Lit.int k x).wf = true ∧ (Lit.int k y).wf = true := by
  obtain ⟨_, hf⟩ := h.fields ht hone
  obtain ⟨u0, e0, r0⟩ := hf 0 T h0 (by simp)
  obtain ⟨u1, e1, r1⟩ := hf 1 T h1 (by simp)
  obtain ⟨x, ex, wx⟩ := r0.int hT
  obtain ⟨y, ey, wy⟩ := r1.int hT
  simp at e0 e1 ex ey
  exact ⟨x, y, by rw [e0, ex], by rw [e1, ey], wx, wy⟩

/-- A list of integers, and of texts, that came in. -/
def Nums (k : IntKind) (w : World) (ao : Option Addr) (len : Nat) (ns : Nat → Int) : Prop :=
  len ≤ 140737488351232 ∧ (len = 0 ∨ ∃ b off, ao = some ⟨b, off, none⟩ ∧ Row w b off len (fun i => .int k (ns i))) ∧ ∀ i, (Lit.int k (ns i)).wf = true
def Strs (w : World) (ao : Option Addr) (len : Nat) (ss : Nat → List UInt8) : Prop :=
  len ≤ 140737488351232 ∧ (len = 0 ∨ ∃ b off, ao = some ⟨b, off, none⟩ ∧ Row w b off len (fun i => .string (bs (ss i)))) ∧ ∀ i, (ss i).length ≤ 140737488351232
def intOf0 : Value → Int | .int _ n => n | _ => 0
def strOf0 : Value → List UInt8 | .string s => s.data.toList | _ => []

theorem Rdg.nums {k : IntKind} {ao : Option Addr} {len cap : Nat} (h : Rdg P w t [.slice ao len cap]) (ht : P.underlying t = some (.slice e)) (he : P.underlying e = some (.int k)) (hC : P.cellsOf e = 1) (hB : 0 < P.bytesOf e) (h0 : (Lit.int k 0).wf = true) :
    ∃ ns, Nums k w ao len ns := by
  obtain ⟨ao', len', cap', hcs, hl, hb, _, hr⟩ := h.slice (C := 1) ht hC (by omega)
  simp only [List.cons.injEq, Value.slice.injEq, and_true] at hcs
  obtain ⟨rfl, rfl, rfl⟩ := hcs
  have hle : len ≤ 140737488351232 := by
    unfold reachBytes at hb
    have := Nat.le_mul_of_pos_right cap hB
    omega
  rcases hr with h1 | ⟨b, off, f, ha, hrow, hel⟩
  · exact ⟨fun _ => 0, hle, .inl h1, fun _ => h0⟩
  · have hty : ∀ i, i < len → ∃ n, f i = .int k n ∧ (Lit.int k n).wf = true := by
      intro i hi
      obtain ⟨n, e, wf⟩ := (show Rdg P w _ [f (i * 1 + 0)] from hel i hi).int he
      simp only [Nat.mul_one, Nat.add_zero, List.cons.injEq, and_true] at e
      exact ⟨n, e, wf⟩
    refine ⟨fun i => if i < len then intOf0 (f i) else 0, hle, .inr ⟨b, off, ha, hrow.1, fun i hi => ?_⟩, fun i => ?_⟩
    · have h2 := hrow.2 i (by omega)
      obtain ⟨n, e, _⟩ := hty i hi
      rw [h2]; simp only [if_pos hi, e, intOf0]
    · by_cases hi : i < len
      · obtain ⟨n, e, b1⟩ := hty i hi
        simp only [if_pos hi, e, intOf0]; exact b1
      · simp only [if_neg hi]; exact h0

theorem Rdg.strs {ao : Option Addr} {len cap : Nat} (h : Rdg P w t [.slice ao len cap]) (ht : P.underlying t = some (.slice e)) (he : P.underlying e = some .string) (hC : P.cellsOf e = 1) (hB : 0 < P.bytesOf e) :
    ∃ ss, Strs w ao len ss := by
  obtain ⟨ao', len', cap', hcs, hl, hb, _, hr⟩ := h.slice (C := 1) ht hC (by omega)
  simp only [List.cons.injEq, Value.slice.injEq, and_true] at hcs
  obtain ⟨rfl, rfl, rfl⟩ := hcs
  have hle : len ≤ 140737488351232 := by
    unfold reachBytes at hb
    have := Nat.le_mul_of_pos_right cap hB
    omega
  rcases hr with h1 | ⟨b, off, f, ha, hrow, hel⟩
  · exact ⟨fun _ => [], hle, .inl h1, fun _ => by simp⟩
  · have hty : ∀ i, i < len → ∃ l : List UInt8, f i = .string (bs l) ∧ l.length ≤ 140737488351232 := by
      intro i hi
      obtain ⟨l, e, hl⟩ := (show Rdg P w _ [f (i * 1 + 0)] from hel i hi).string he
      simp only [Nat.mul_one, Nat.add_zero, List.cons.injEq, and_true] at e
      exact ⟨l, e, by unfold reachBytes at hl; omega⟩
    refine ⟨fun i => if i < len then strOf0 (f i) else [], hle, .inr ⟨b, off, ha, hrow.1, fun i hi => ?_⟩, fun i => ?_⟩
    · have h2 := hrow.2 i (by omega)
      obtain ⟨l, e, _⟩ := hty i hi
      rw [h2]; simp only [if_pos hi, e, strOf0, bs_of]
    · by_cases hi : i < len
      · obtain ⟨l, e, b1⟩ := hty i hi
        simp only [if_pos hi, e, strOf0, bs_toList]; exact b1
      · simp only [if_neg hi]; simp

theorem Row.kept {b off n : Nat} {f : Nat → Value} {w' : World} (h : Row w b off n f) (hk : w'.heap[b]? = w.heap[b]?) (hs : w.heap.size ≤ w'.heap.size) : Row w' b off n f :=
  ⟨Nat.lt_of_lt_of_le h.1 hs, fun i hi => by rw [← h.2 i hi]; exact World.cell?_of_block (a := ⟨b, off + i, none⟩) hk⟩
theorem Row.below {b off n : Nat} {f : Nat → Value} {w' : World} {B : Nat} (h : Row w b off n f) (hb : Below B w w') (hB : w.heap.size ≤ B) : Row w' b off n f :=
  h.kept (hb.block _ (Nat.lt_of_lt_of_le h.1 hB)) hb.size
end
end K
end Go.Proofs.YtmdibafofdghgaaGreatDoor
