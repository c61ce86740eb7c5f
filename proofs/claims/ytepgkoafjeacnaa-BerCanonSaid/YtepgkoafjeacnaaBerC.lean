/- ber.Parts, walked; what it tells, plain. -/
import Derived.Test.YtepgkoafjeacnaaBerB
namespace Go.Proofs.Ytepgkoafjeacnaa
open Go.ChangeShapes Go.WideShapes Go.ChangeAt Go.RowKit K P1 B5
set_option linter.unusedVariables false

/-- The elements one behind the other, so many of them ahead; or what is wrong first: 50, 2. -/
def prts : Nat → Nat → List UInt8 → Except Nat (List (Nat × List UInt8))
  | 0, _, l => if l.isEmpty then .ok [] else .error 50
  | k + 1, c, l =>
    if l.isEmpty then .ok []
    else if nxOk l = false then .error 50
    else if c = 4096 then .error 2
    else match prts k (c + 1) (nxR l) with
      | .error e => .error e
      | .ok r => .ok ((nxT l, nxB l) :: r)
theorem prts_nil (k c : Nat) : prts k c [] = .ok [] := by cases k <;> rfl
theorem prts_more : ∀ (n k m c : Nat) (l : List UInt8), l.length ≤ n → l.length ≤ k → l.length ≤ m → prts k c l = prts m c l
  | 0, k, m, c, l, hn, _, _ => by
    obtain rfl : l = [] := List.length_eq_zero_iff.1 (by omega)
    rw [prts_nil, prts_nil]
  | n + 1, k, m, c, l, hn, hk, hm => by
    by_cases h : l = []
    · subst h; rw [prts_nil, prts_nil]
    · have hp := List.length_pos_iff.2 h
      obtain ⟨k, rfl⟩ : ∃ j, k = j + 1 := ⟨k - 1, by omega⟩
      obtain ⟨m, rfl⟩ : ∃ j, m = j + 1 := ⟨m - 1, by omega⟩
      unfold prts
      by_cases hx : nxOk l = true
      · obtain ⟨_, _, _, _, h5⟩ := nx_of hx
        rw [prts_more n k m (c + 1) (nxR l) (by omega) (by omega) (by omega)]
      · rw [Bool.not_eq_true] at hx
        rw [if_pos hx, if_pos hx]
def prt (c : Nat) (l : List UInt8) : Except Nat (List (Nat × List UInt8)) := prts l.length c l
theorem prt_step {l : List UInt8} (h : l ≠ []) (c : Nat) : prt c l =
    if nxOk l = false then .error 50
    else if c = 4096 then .error 2
    else match prt (c + 1) (nxR l) with
      | .error e => .error e
      | .ok r => .ok ((nxT l, nxB l) :: r) := by
  have hp := List.length_pos_iff.2 h
  obtain ⟨k, hk⟩ : ∃ k, l.length = k + 1 := ⟨l.length - 1, by omega⟩
  have he : l.isEmpty = false := List.isEmpty_eq_false_iff.2 h
  unfold prt
  rw [hk]
  conv => lhs; unfold prts
  rw [he]
  by_cases hx : nxOk l = true
  · obtain ⟨_, _, _, _, h5⟩ := nx_of hx
    rw [prts_more k k (nxR l).length (c + 1) (nxR l) (by omega) (by omega) (Nat.le_refl _)]
    rfl
  · rw [Bool.not_eq_true] at hx
    rw [if_pos hx, if_pos hx]; rfl
/-- Elements ahead of what is told. -/
def ahd (ps : List (Nat × List UInt8)) (x : Except Nat (List (Nat × List UInt8))) : Except Nat (List (Nat × List UInt8)) :=
  match x with
  | .error e => .error e
  | .ok r => .ok (ps ++ r)
theorem ahd_nil (x : Except Nat (List (Nat × List UInt8))) : ahd [] x = x := by cases x <;> rfl
theorem ahd_bad (ps : List (Nat × List UInt8)) {l : List UInt8} (h : l ≠ []) (hx : nxOk l = false) : ahd ps (prt ps.length l) = .error 50 := by
  rw [prt_step h, if_pos hx]; rfl
theorem ahd_many (ps : List (Nat × List UInt8)) {l : List UInt8} (hx : nxOk l = true) (hc : ps.length = 4096) : ahd ps (prt ps.length l) = .error 2 := by
  rw [prt_step (nxOk_ne hx), if_neg (by rw [hx]; simp), if_pos hc]; rfl
theorem ahd_one (ps : List (Nat × List UInt8)) {l : List UInt8} (hx : nxOk l = true) (hc : ¬ ps.length = 4096) : ahd ps (prt ps.length l) = ahd (ps ++ [(nxT l, nxB l)]) (prt (ps ++ [(nxT l, nxB l)]).length (nxR l)) := by
  rw [prt_step (nxOk_ne hx), if_neg (by rw [hx]; simp), if_neg hc, List.length_append]
  show ahd ps (match prt (ps.length + 1) (nxR l) with | .error e => .error e | .ok r => .ok ((nxT l, nxB l) :: r)) = ahd (ps ++ [(nxT l, nxB l)]) (prt (ps.length + 1) (nxR l))
  cases prt (ps.length + 1) (nxR l) with
  | error e => rfl
  | ok r => simp [ahd]
def PaPost (l : List UInt8) (w : World) (e : Ending) (w' : World) : Prop :=
  (∃ c : Nat, prt 0 l = .error c ∧ e = .returned (.tuple #[.slice none 0 0, .int .i64 (c : Nat)]) ∧ Below w.heap.size w w') ∨
  (∃ ps v, prt 0 l = .ok ps ∧ e = .returned (.tuple #[v, .int .i64 0]) ∧ OwnP w' w.heap.size 34 v ps ∧ Below w.heap.size w w')
theorem part_infoC : (Try.prog.info? 34).map (fun i => (i.zero, i.size, i.bytes)) = some (some (.agg #[.int .i64 0, .string .empty]), 2, 24) := by kernel_rfl
def PaRel (l : List UInt8) (w : World) (g : Nat) (v0 v4 : Value) (wr : World) : Prop :=
  ∃ s ps, s.length ≤ g ∧ s.length ≤ l.length ∧ v0 = .string (bs s) ∧ OwnP wr w.heap.size 34 v4 ps ∧ ps.length ≤ 4096 ∧ prt 0 l = ahd ps (prt ps.length s) ∧ Below w.heap.size w wr
theorem nxQ_ok {s : List UInt8} (h : nxOk s = true) : nxQ s = (nxT s, nxB s, nxR s) ∧ nxE s = 0 := by unfold nxQ nxE; rw [h]; exact ⟨rfl, rfl⟩
theorem nxQ_no {s : List UInt8} (h : nxOk s = false) : nxQ s = (0, [], []) ∧ nxE s = 50 := by unfold nxQ nxE; rw [h]; exact ⟨rfl, rfl⟩
theorem next_ok (s : List UInt8) (hs : s.length ≤ 140737488351232) (h : nxOk s = true) (w : World) :
    Calls Try.prog 15 #[.string (bs s)] w fun e w' => e = .returned (.tuple #[.agg #[.int .i64 (nxT s : Nat), .string (bs (nxB s))], .string (bs (nxR s)), .int .i64 0]) ∧ Below w.heap.size w w' := by
  have := next_walk s hs w
  rw [(nxQ_ok h).1, (nxQ_ok h).2] at this
  exact this
theorem next_no (s : List UInt8) (hs : s.length ≤ 140737488351232) (h : nxOk s = false) (w : World) :
    Calls Try.prog 15 #[.string (bs s)] w fun e w' => e = .returned (.tuple #[.agg #[.int .i64 0, .string (bs [])], .string (bs []), .int .i64 50]) ∧ Below w.heap.size w w' := by
  have := next_walk s hs w
  rw [(nxQ_no h).1, (nxQ_no h).2] at this
  exact this
set_option maxRecDepth 100000 in
set_option maxHeartbeats 2000000 in
theorem parts_list_walk (l : List UInt8) (hl : l.length ≤ 140737488351232) (w : World) :
    Calls Try.prog 16 #[.string (bs l)] w (PaPost l w) := by
  obtain ⟨i0, hi, hz0, hz1, hz2⟩ := (show ∃ i, Try.prog.info? 34 = some i ∧ i.zero = some (.agg #[.int .i64 0, .string .empty]) ∧ i.size = 2 ∧ i.bytes = 24 by
    obtain ⟨i, h1, h2⟩ := Option.map_eq_some_iff.1 part_infoC
    simp only [Prod.mk.injEq] at h2
    exact ⟨i, h1, h2.1, h2.2.1, h2.2.2⟩)
  go_enter Try.func16, Try.ntmps16
  go_wp2
  go_loopg [0, 4] l.length (fun g v0 v4 wr => PaRel l w g v0 v4 wr)
  case atStart => exact ⟨l, [], Nat.le_refl _, Nat.le_refl _, rfl, OwnP.nil _ _ _, by simp, (ahd_nil _).symm, Below.refl _ _⟩
  case round =>
    obtain ⟨s, ps, hg, hsl, rfl, ho, hp, hE, hb⟩ := hrel
    by_cases hs : s = []
    · subst hs
      have hE2 : prt 0 l = .ok ps := by rw [hE]; show ahd ps (.ok []) = _; simp [ahd]
      have HE := Lib.hid hE2
      clear hE hE2 hg hsl
      go_wp2
      go_ret2
      exact .inr ⟨ps, _, HE.out, rfl, ho, hb⟩
    · have hne : s.isEmpty = false := List.isEmpty_eq_false_iff.2 hs
      cases hx : nxOk s
      · have HF := Lib.hid (next_no s (by omega) hx wr)
        have HE := Lib.hid (hE.trans (ahd_bad ps hs hx))
        clear hE hx hs hg ho
        go_wp2_with fail
        refine HF.out.mono ?_
        rintro e w1 ⟨rfl, d1⟩
        have hb1 := hb.trans (d1.mono hb.size)
        clear d1 hb
        go_wp2
        go_ret2
        exact .inl ⟨50, HE.out, rfl, hb1.alloc hb1.size _⟩
      · have HF := Lib.hid (next_ok s (by omega) hx wr)
        obtain ⟨_, _, _, _, h5⟩ := nx_of hx
        obtain ⟨ao, cap, rfl, hf⟩ := ho.form
        clear hf
        by_cases hc : ps.length = 4096
        · have HE := Lib.hid (hE.trans (ahd_many ps hx hc))
          clear hE hx hs hg ho
          go_wp2_with fail
          refine HF.out.mono ?_
          rintro e w1 ⟨rfl, d1⟩
          have hb1 := hb.trans (d1.mono hb.size)
          clear d1 hb
          rw [hc]
          go_wp2
          go_ret2
          exact .inl ⟨2, HE.out, rfl, hb1.alloc hb1.size _⟩
        · have HE := Lib.hid (hE.trans (ahd_one ps hx hc))
          have hcc : (((ps.length : Nat) : Int) == 4096) = false := by rw [beq_eq_false_iff_ne]; omega
          have hlt : ps.length < 4096 := by omega
          have HH := Lib.hid h5
          have HG := Lib.hid hg
          have HSL := Lib.hid hsl
          generalize nxT s = T at *
          generalize nxB s = BD at *
          generalize nxR s = RS at *
          clear hE hx hs hc h5 hg hsl
          go_wp2_with fail
          refine HF.out.mono ?_
          rintro e w3 ⟨rfl, d1⟩
          have ho3 := ho.below d1
          have hb3 := hb.trans (d1.mono hb.size)
          clear d1 hb ho
          go_wp2_with (at_builtin; refine wpList_append_own _ rfl _ _ 31 rfl w.heap.size 34 i0 (.agg #[.int .i64 0, .string .empty]) 2 24 Try.underlying31 hi hz0 hz1 hz2 rfl (by decide) _ _ _ rfl (World.ownsRow.alloc (World.ownsRow.alloc ho3 _) _) _ 1 1 [.int .i64 (T : Nat), .string (bs BD)] rfl rfl ?c1 ?c2 ?c3 ?c4 ?c5 ?_)
          case c1 =>
            have hrn := rowNew (w3.alloc (.cells #[.int .i64 (T : Nat), .string (bs BD)] 34)) (.cells #[.int .i64 (T : Nat), .string (bs BD)] 34)
            rw [show (w3.alloc (.cells #[.int .i64 (T : Nat), .string (bs BD)] 34)).heap.size = w3.heap.size + 1 by simp] at hrn
            intro j u hj
            match j, hj with
            | 0, hj => simp at hj; subst hj; exact cellRow hrn 0
            | 1, hj => simp at hj; subst hj; exact cellRow hrn 1
            | j + 2, hj => simp at hj
          case c2 =>
            intro u hu
            simp at hu
            rcases hu with rfl | rfl
            · rfl
            · rfl
          case c3 => unfold maxLen; omega
          case c4 => omega
          case c5 => have := hb3.size; simp; omega
          intro v' w4 hown' hgrow _
          have hb4 := ((hb3.alloc (by have := hb3.size; omega) (.cells #[.int .i64 (T : Nat), .string (bs BD)] 34)).alloc (by have := hb3.size; simp; omega) (.cells #[.int .i64 (T : Nat), .string (bs BD)] 34)).grown hgrow (by have := hb3.size; simp; omega) (fun k hk => (World.ownsRow.lt ho3 k hk).1)
          have ho4 : OwnP w4 w.heap.size 34 v' (ps ++ [(T, BD)]) := OwnP.put hown'
          clear hown' hgrow ho3 hb3
          go_wp2
          go_roundg RS.length
          case measure => have := HG.out; have := HH.out; omega
          case rel => exact ⟨RS, ps ++ [(T, BD)], Nat.le_refl _, by have := HSL.out; have := HH.out; omega, rfl, ho4, by rw [List.length_append]; exact hlt, HE.out, hb4⟩
/-- Elements that are put one behind the other. -/
theorem prt_puts : ∀ (ps : List (Nat × List UInt8)) (c : Nat), (∀ p ∈ ps, isTag p.1 = true ∧ p.1 < 256 ∧ p.2.length < 4294967296) → c + ps.length ≤ 4096 → prt c (ps.flatMap fun p => put p.1 p.2) = .ok ps
  | [], c, _, _ => rfl
  | p :: ps, c, h, hc => by
    obtain ⟨h1, h2, h3⟩ := h p (by simp)
    obtain ⟨x1, x2, x3, x4⟩ := nx_put p.1 p.2 (ps.flatMap fun p => put p.1 p.2) h1 h2 h3
    rw [List.length_cons] at hc
    rw [List.flatMap_cons, prt_step (put_ne _ _ _), x1, x2, x3, x4, if_neg (by simp), if_neg (by omega), prt_puts ps (c + 1) (fun q hq => h q (by simp [hq])) (by omega)]
end Go.Proofs.Ytepgkoafjeacnaa
