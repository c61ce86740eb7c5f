/- Texts on the program and on the document, joined: LexI, LexJ, LexK, LxqI. -/
import Derived.Test.YtaeglmgpoboihaaGreatDoorMa28
import Derived.Test.YtaeglmgpoboihaaGreatDoorMa05
import Derived.Test.YtaeglmgpoboihaaGreatDoorMa13
import Derived.Deep.RegionHeld3
import Derived.Deep.RegionWith
/- The document's IsSign of any text, and put, walked (gen_lexi.py writes this). -/
namespace Go.Proofs.YtaeglmgpoboihaaGreatDoor
open Go.ChangeShapes Go.WideShapes Go.ChangeAt Go.RowKit K L14
set_option linter.unusedVariables false

/-- A kind among the five; or none. -/
def kN (k : Int) : Nat := if k = 1 then 1 else if k = 2 then 2 else if k = 3 then 3 else if k = 4 then 4 else if k = 5 then 5 else 0
def PuPost (k : Nat) (t : List UInt8) (w : World) (e : Ending) (w' : World) : Prop := e = .returned (.string (bs (put k t))) ∧ Below w.heap.size w w'
theorem eq_len {a b : Nat} (h : a = b) : (((a : Nat) : Int) != ((b : Nat) : Int)) = false := by subst h; simp
theorem ne_len {a b : Nat} (h : ¬ a = b) : (((a : Nat) : Int) != ((b : Nat) : Int)) = true := by rw [bne_iff_ne]; omega
end Go.Proofs.YtaeglmgpoboihaaGreatDoor
/- The document's Print, walked (gen_lexj.py writes this). -/
namespace Go.Proofs.YtaeglmgpoboihaaGreatDoor
open Go.ChangeShapes Go.WideShapes Go.ChangeAt Go.RowKit K L14
set_option linter.unusedVariables false

/-- A token with any numbers. -/
structure Tq where
  k : Int
  t : List UInt8
  l : Int
def tqC (x : Tq) : List Value := [.int .i64 x.k, .string (bs x.t), .int .i64 x.l]
def noQ : Tq := ⟨0, [], 0⟩
/-- Tokens with any numbers, as a call reads them. -/
def RdQ (w : World) (ao : Option Addr) (l : List Tq) : Prop := l.length = 0 ∨ ∃ g o, ao = some ⟨g, o, none⟩ ∧ g < w.heap.size ∧ ∀ i, i < l.length → ∀ j, j < 3 → w.cell? ⟨g, o + i * 3 + j, none⟩ = (tqC (l.getD i noQ))[j]?
theorem RdQ.below {w w' : World} {ao : Option Addr} {l : List Tq} (h : RdQ w ao l) (k : Below w.heap.size w w') : RdQ w' ao l := by
  rcases h with h | ⟨g, o, h1, h2, h3⟩
  · exact .inl h
  · exact .inr ⟨g, o, h1, Nat.lt_of_lt_of_le h2 k.size, fun i hi j hj => (k.cell (p := ⟨g, o + i * 3 + j, none⟩) h2).trans (h3 i hi j hj)⟩
theorem RdQ.at {w : World} {ao : Option Addr} {l : List Tq} (h : RdQ w ao l) {i : Nat} (hi : i < l.length) : ∃ g o, ao = some ⟨g, o, none⟩ ∧ g < w.heap.size ∧ w.cell? ⟨g, o + i * 3, none⟩ = some (.int .i64 (l.getD i noQ).k) ∧ w.cell? ⟨g, o + i * 3 + 1, none⟩ = some (.string (bs (l.getD i noQ).t)) ∧ w.cell? ⟨g, o + i * 3 + 2, none⟩ = some (.int .i64 (l.getD i noQ).l) := by
  rcases h with h | ⟨g, o, h1, h2, h3⟩
  · omega
  · exact ⟨g, o, h1, h2, (h3 i hi 0 (by omega)), (h3 i hi 1 (by omega)), (h3 i hi 2 (by omega))⟩
def bq (l : List Tq) : List (Nat × List UInt8) := l.map fun x => (kN x.k, x.t)
/-- What Print answers. -/
def prS (l : List Tq) : List UInt8 := if allT (bq l) then file (bq l) else []
def prE (l : List Tq) : Nat := if allT (bq l) then 0 else 140
theorem bq_at (l : List Tq) (i : Nat) (h : i < l.length) : bq (l.take (i + 1)) = bq (l.take i) ++ [(kN (l.getD i noQ).k, (l.getD i noQ).t)] := by
  unfold bq
  rw [List.take_succ_eq_append_getElem h, List.map_append]
  simp [List.getD, h]
theorem allT_app (a b : List (Nat × List UInt8)) : allT (a ++ b) = (allT a && allT b) := by unfold allT; rw [List.all_append]
theorem bq_no (l : List Tq) (i : Nat) (h : i < l.length) (hx : isT (kN (l.getD i noQ).k) (l.getD i noQ).t = false) : prS l = [] ∧ prE l = 140 := by
  have h1 : allT (bq l) = false := by
    have e : l = l.take (i + 1) ++ l.drop (i + 1) := (List.take_append_drop _ _).symm
    have e2 : bq l = bq (l.take (i + 1)) ++ bq (l.drop (i + 1)) := by
      conv => lhs; rw [e]
      unfold bq; rw [List.map_append]
    rw [e2, bq_at l i h, allT_app, allT_app]
    have : allT [(kN (l.getD i noQ).k, (l.getD i noQ).t)] = false := by show (isT _ _ && true) = false; rw [hx]; rfl
    rw [this]; simp
  unfold prS prE; rw [h1]; exact ⟨rfl, rfl⟩
theorem bhd_put {k : Nat} {t : List UInt8} (h : isT k t = true) : bhd k t = if k = 5 ∧ (put k t = [59] ∨ put k t = [123] ∨ put k t = [125]) then [10] else [32] := by
  unfold bhd
  by_cases hk : k = 5
  · subst hk
    have : put 5 t = t := by
      unfold isT at h
      rw [if_neg (by decide), if_neg (by decide), if_neg (by decide), if_neg (by decide), if_pos rfl] at h
      unfold put
      rw [if_neg (by decide), if_neg (by decide), if_neg (by decide), if_neg (by decide), if_pos rfl, h]; rfl
    rw [this]
  · rw [if_neg (fun x => hk x.1), if_neg (fun x => hk x.1)]
theorem kN5 {k : Int} : kN k = 5 ↔ k = 5 := by
  unfold kN
  constructor
  · intro h
    by_cases k1 : k = 1
    · rw [if_pos k1] at h; omega
    rw [if_neg k1] at h
    by_cases k2 : k = 2
    · rw [if_pos k2] at h; omega
    rw [if_neg k2] at h
    by_cases k3 : k = 3
    · rw [if_pos k3] at h; omega
    rw [if_neg k3] at h
    by_cases k4 : k = 4
    · rw [if_pos k4] at h; omega
    rw [if_neg k4] at h
    by_cases k5 : k = 5
    · exact k5
    rw [if_neg k5] at h; omega
  · rintro rfl; rfl
/-- The rounds. -/
def PrRel (l : List Tq) (w : World) (g : Nat) (vs vi : Value) (wr : World) : Prop :=
  ∃ i : Nat, i + g = l.length ∧ vi = .int .i64 (i : Nat) ∧ vs = .string (bs (file (bq (l.take i)))) ∧ (file (bq (l.take i))).length ≤ i * 4000100 ∧ allT (bq (l.take i)) = true ∧ Below w.heap.size w wr
theorem put_len (k : Nat) (t : List UInt8) : (put k t).length ≤ 4 * t.length + 2 := by
  unfold put
  have hq : (quo t).length ≤ 4 * t.length + 2 := by
    unfold quo
    have := (qbd_len t).2
    simp; omega
  have h0 : ([] : List UInt8).length ≤ 4 * t.length + 2 := by simp
  have h1 : t.length ≤ 4 * t.length + 2 := by omega
  have h2 : ((36 : UInt8) :: t).length ≤ 4 * t.length + 2 := by rw [List.length_cons]; omega
  (repeat' split) <;> assumption
theorem file_one (k : Nat) (t : List UInt8) : file [(k, t)] = put k t ++ bhd k t := by simp [file]
theorem prrel_next {l : List Tq} {w w' : World} {i g : Nat} {z : Int} {k : Nat} {t P b S : List UInt8} (hi : i + (g + 1) = l.length) (hl : i < l.length) (hx : bq (l.take (i + 1)) = bq (l.take i) ++ [(k, t)]) (hS : S = file (bq (l.take i))) (hn : S.length ≤ i * 4000100) (ha : allT (bq (l.take i)) = true) (hP : P = put k t) (hT : isT k t = true) (hb : b = bhd k t) (ht : t.length ≤ 1000000) (hz : z = ((i : Nat) : Int) + 1) (hB : Below w.heap.size w w') : PrRel l w g (.string (bs (S ++ (P ++ b)))) (.int .i64 z) w' := by
  have e : file (bq (l.take (i + 1))) = S ++ (P ++ b) := by rw [hx, file_app, ← hS, file_one, hP, hb]
  have h1 := put_len k t
  have h2 : b.length = 1 := by rw [hb]; rcases bhd_two k t with h | h <;> rw [h] <;> rfl
  refine ⟨i + 1, by omega, by rw [hz]; rfl, by rw [e], ?_, ?_, hB⟩
  · rw [e, List.length_append, List.length_append, hP]; omega
  · rw [hx, allT_app, ha]; simp [allT, hT]
end Go.Proofs.YtaeglmgpoboihaaGreatDoor
/- The laws of tokens, on calls that keep their word: same, works. -/
namespace Go.Proofs.YtaeglmgpoboihaaGreatDoor
open Go.ChangeShapes Go.WideShapes Go.ChangeAt Go.RowKit K L14
set_option linter.unusedVariables false

/-- What the program's Split answers: all tokens are looked for first. -/
def PglPost (s : List UInt8) (w : World) (e : Ending) (w' : World) : Prop :=
  Below w.heap.size w w' ∧ ∃ ao cap, e = .returned (.tuple #[.slice ao (pgL s).length cap, .int .i64 (pgN s : Nat), .int .i64 (pgE s : Nat)]) ∧ RdK w' ao (pgL s)
/-- Tokens as tokens with any numbers. -/
def tq (l : List Tk) : List Tq := l.map fun x => ⟨(x.k : Nat), x.t, (x.l : Nat)⟩
theorem tq_len (l : List Tk) : (tq l).length = l.length := by simp [tq]
theorem RdK.q {w : World} {ao : Option Addr} {l : List Tk} (h : RdK w ao l) : RdQ w ao (tq l) := by
  rcases h with h | ⟨g, o, h1, h2, h3⟩
  · exact .inl (by rw [tq_len]; exact h)
  · refine .inr ⟨g, o, h1, h2, fun i hi j hj => ?_⟩
    rw [tq_len] at hi
    rw [h3 i hi j hj]
    simp [tq, List.getD, hi, tkC, tqC]
def xs14 : List UInt8 := [115, 101, 116, 32, 110, 111, 100, 101, 32, 61, 32, 36, 104, 111, 115, 116, 59, 32, 35, 32, 97, 32, 114, 101, 109, 97, 114, 107]
def xl14 : List Tk := [⟨1, [115, 101, 116], 1⟩, ⟨1, [110, 111, 100, 101], 1⟩, ⟨5, [61], 1⟩, ⟨3, [104, 111, 115, 116], 1⟩, ⟨5, [59], 1⟩]
theorem ex14 : split 4096 1 xs14 = .ok xl14 := by kernel_rfl
theorem eq_self (n : Nat) : (((n : Nat) : Int) == ((n : Nat) : Int)) = true := by simp
end Go.Proofs.YtaeglmgpoboihaaGreatDoor
/- The program's Split, walked. -/
namespace Go.Proofs.YtaeglmgpoboihaaGreatDoor
open Go.ChangeShapes Go.WideShapes Go.ChangeAt Go.RowKit K L14
set_option linter.unusedVariables false

theorem skp_rst : ∀ (r : Bool) (s : List UInt8), skp false (s.drop (skp r s)) = 0
  | _, [] => rfl
  | r, c :: t => by
    simp only [skp]
    split
    · rw [List.drop_succ_cons]
      exact skp_rst _ t
    · next h =>
      rw [Bool.not_eq_true] at h
      simp only [Bool.or_eq_false_iff] at h
      rw [List.drop_zero]
      simp only [skp, h.1.2, h.2, Bool.or_false, Bool.false_eq_true, if_false]
theorem rst_rst (s : List UInt8) : rst (rst s) = rst s := by
  have h := skp_rst false s
  show (rst s).drop (skp false (rst s)) = rst s
  rw [show skp false (rst s) = 0 from h]; rfl
theorem lin_rst (ln : Nat) (s : List UInt8) : lin ln (rst s) = ln := by
  have h := skp_rst false s
  unfold lin
  rw [show skp false (rst s) = 0 from h]; simp [nls]
/-- Behind blanks it is split as with them. -/
theorem split_rst (m ln : Nat) (s : List UInt8) : split m ln s = split m (lin ln s) (rst s) := by
  by_cases h : rst s = []
  · rw [split_end h, split_end (by rw [rst_rst]; exact h)]
  · cases hx : nxt (rst s) with
    | none => rw [split_no h hx, split_no (by rw [rst_rst]; exact h) (by rw [rst_rst]; exact hx), lin_rst]
    | some z =>
      obtain ⟨⟨k, t⟩, n⟩ := z
      cases m with
      | zero => rw [split_full h hx, split_full (by rw [rst_rst]; exact h) (by rw [rst_rst]; exact hx), lin_rst]
      | succ m => rw [split_go h hx, split_go (by rw [rst_rst]; exact h) (by rw [rst_rst]; exact hx), lin_rst, rst_rst]
theorem nxP_none {s : List UInt8} (h : nxP s = none) : nxt s = none := by
  unfold nxP at h
  cases hx : nxt s with
  | none => rfl
  | some y => rw [hx] at h; cases h
theorem nxP_some {s t r : List UInt8} {k : Nat} (h : nxP s = some ((k, t), r)) : ∃ n, nxt s = some ((k, t), n) ∧ s.drop n = r := by
  unfold nxP at h
  obtain ⟨y, hy, h⟩ := Option.map_eq_some_iff.1 h
  obtain ⟨⟨k2, t2⟩, n⟩ := y
  injection h with h1 h2
  injection h1 with h1 h3
  simp only at h1 h2 h3
  subst h1 h3
  exact ⟨n, hy, h2⟩
/-- The rounds: what is left begins with a token, or is nothing. -/
def LwRel (s : List UInt8) (w : World) (g : Nat) (v2 v3 v5 : Value) (wr : World) : Prop :=
  ∃ ts ln r, r.length ≤ g ∧ ts.length + r.length ≤ s.length ∧ ln + nls r ≤ 1 + nls s ∧ v3 = .int .i64 (ln : Nat) ∧ v5 = .string (bs r) ∧ rst r = r ∧ lin ln r = ln ∧ OwnK wr w.heap.size 72 v2 ts ∧ all14 s = pre ts (split (s.length + 1 - ts.length) ln r) ∧ Below w.heap.size w wr
theorem lp_end {s : List UInt8} {ts : List Tk} {m ln : Nat} (h : all14 s = pre ts (split m ln [])) : all14 s = .ok ts := by
  rw [h, split_end (by rfl)]; simp [pre]
theorem lp_no {s r : List UInt8} {ts : List Tk} {m ln : Nat} (h : all14 s = pre ts (split m ln r)) (hr : rst r = r) (hl : lin ln r = ln) (hne : r ≠ []) (hx : nxP r = none) : all14 s = .error (ln, 140) := by
  rw [h, split_no (by rw [hr]; exact hne) (by rw [hr]; exact nxP_none hx), hl]; rfl
theorem lp_go {s r q t : List UInt8} {ts : List Tk} {m ln k : Nat} (h : all14 s = pre ts (split (m + 1) ln r)) (hr : rst r = r) (hl : lin ln r = ln) (hne : r ≠ []) (hx : nxP r = some ((k, t), q)) : all14 s = pre (ts ++ [⟨k, t, ln⟩]) (split m (lin ln q) (rst q)) := by
  obtain ⟨n, h1, h2⟩ := nxP_some hx
  rw [h, split_go (by rw [hr]; exact hne) (by rw [hr]; exact h1), hr, hl, h2, split_rst m ln q]
  cases split m (lin ln q) (rst q) <;> simp [pre]
theorem ltinfo : (Tryz.prog.info? 72).map (fun i => (i.zero, i.size, i.bytes)) = some (some (.agg #[.int .i64 0, .string .empty, .int .i64 0]), 3, 32) := by kernel_rfl
/-- One more token of the program. -/
theorem appKl {ops : Array Oper} {rest : List Oper} {o : Oper} {a : Act} {Q : Exit → Act → World → Prop} {W : World} (hgd : o.guard = none) {s x : Operand} (ho : o.op = .call { callee := .builtin .append, args := #[s, x], argTypes := #[54, 54] })
    {B : Nat} {v : Value} {l : List Tk} {p : Tk} (hs : a.eval s = v) (hO : OwnK W B 72 v l) {bz : Nat} (hx : a.eval x = .slice (some ⟨bz, 0, none⟩) 1 1) (hbz : bz = W.heap.size) (hn : l.length ≤ 1000000) (hB : B ≤ W.heap.size)
    (h : ∀ v' w', OwnK w' B 72 v' (l ++ [p]) → (∀ y, Below B y W → Below B y w') → wpList Tryz.prog ops Q rest (a.put o.dst v') w') : wpList Tryz.prog ops Q (o :: rest) a (W.alloc (.cells #[.int .i64 (p.k : Nat), .string (bs p.t), .int .i64 (p.l : Nat)] 72)) := by
  subst hbz
  obtain ⟨i0, hi, hz0, hz1, hz2⟩ := info_of ltinfo
  have hC := rowNew W (.cells #[.int .i64 (p.k : Nat), .string (bs p.t), .int .i64 (p.l : Nat)] 72)
  have hsz : (W.alloc (.cells #[.int .i64 (p.k : Nat), .string (bs p.t), .int .i64 (p.l : Nat)] 72)).heap.size = W.heap.size + 1 := by simp
  refine wpList_append_own _ hgd s x 54 ho B 72 i0 (.agg #[.int .i64 0, .string .empty, .int .i64 0]) 3 32 Tryz.underlying54 hi hz0 hz1 hz2 rfl (by decide) v l.length (tkL l) hs (World.ownsRow.alloc hO _) ⟨W.heap.size, 0, none⟩ 1 1 (tkC p) hx rfl ?_ ?_ (by unfold maxLen; omega) (by omega) (by rw [hsz]; omega) ?_
  · intro j u hj
    have hc := cellRow hC j
    have ha : (⟨W.heap.size, 0, none⟩ : Addr).add j = ⟨W.heap.size, j, none⟩ := by
      by_cases h : j = 0
      · subst h; simp [Addr.add]
      · simp [Addr.add, h]
    rw [ha, hc, ← Array.getElem?_toList]
    exact hj
  · have := tkL_one [p]
    simpa [tkL] using this
  · intro v' w' hown hg _
    refine h v' w' ?_ fun y b => ?_
    · unfold OwnK
      rw [List.length_append, tkL_app]
      simpa [tkL] using hown
    · exact (b.alloc hB _).grown hg (by rw [hsz]; omega) (fun k hk => (World.ownsRow.lt hO k hk).1)
theorem nls_rst (s : List UInt8) : nls (s.take (skp false s)) + nls (rst s) = nls s := by
  unfold rst
  rw [← nls_app, List.take_append_drop]
theorem ownk_formC {w : World} {B : Nat} {T : TypeId} {v : Value} {l : List Tk} (h : OwnK w B T v l) : ∃ ao cap, v = .slice ao l.length cap ∧ RdK w ao l ∧ l.length ≤ cap ∧ ∀ a, ao = some a → a.block < w.heap.size := by
  rcases h.2 with ⟨hv, h0⟩ | ⟨g, cap, cur, hv, hB, hh, hle, hm, hs, ht⟩
  · exact ⟨none, 0, by rw [hv, h0], .inl h0, by omega, fun a e => by cases e⟩
  · obtain ⟨ao, c2, e, hr⟩ := h.form
    rw [hv] at e
    injection e with e1 e2 e3
    subst e3
    exact ⟨ao, cap, by rw [hv, e1], hr, hle, fun a e => by rw [← e1] at e; injection e with e; subst e; exact lt_of_block hh⟩
/-- As PglPost; and the tokens' slice has room for them. -/
def PglPostC (s : List UInt8) (w : World) (e : Ending) (w' : World) : Prop :=
  Below w.heap.size w w' ∧ ∃ ao cap, e = .returned (.tuple #[.slice ao (pgL s).length cap, .int .i64 (pgN s : Nat), .int .i64 (pgE s : Nat)]) ∧ RdK w' ao (pgL s) ∧ (pgL s).length ≤ cap ∧ ∀ a, ao = some a → a.block < w'.heap.size
set_option maxRecDepth 100000 in
set_option maxHeartbeats 2000000 in
theorem lsplitC_walk (s : List UInt8) (hs0 : s.length ≤ 140737488355327) (w : World) (T : LxI w) : Calls Tryz.prog 11 #[.string (bs s)] w (PglPostC s w) := by
  by_cases h16 : 65536 < s.length
  · have HX := Lib.hid (pg_long h16)
    have h9 : (65536 : Int) < ((s.length : Nat) : Int) := by omega
    clear h16
    go_enter Tryz.func11, Tryz.ntmps11
    go_wp2
    go_ret3
    refine ⟨Below.refl _ _, none, 0, ?_, ?_⟩
    · rw [HX.out.1, HX.out.2.1, HX.out.2.2]; rfl
    · rw [HX.out.2.2]; exact ⟨.inl rfl, Nat.zero_le _, fun a e => by cases e⟩
  have h9 : ¬ (65536 : Int) < ((s.length : Nat) : Int) := by omega
  have hs : s.length ≤ 65536 := by omega
  have HT := Lib.hid (fun w1 (b : Below w.heap.size w w1) => LxI.below T b)
  have HS0 := Lib.hid (lskip_walk s (by omega) w T)
  have hn0 := nls_rst s
  have hnl := nls_le s
  have hrl := rst_len s
  have H0 := Lib.hid (fun w1 (b : Below w.heap.size w w1) => (show LwRel s w (rst s).length (.slice none 0 0) (.int .i64 ((1 + nls (s.take (skp false s)) : Nat) : Int)) (.string (bs (rst s))) w1 from ⟨[], 1 + nls (s.take (skp false s)), rst s, Nat.le_refl _, by simpa using hrl, by omega, rfl, rfl, rst_rst s, lin_rst _ s, OwnK.nil _ _ _, by
    rw [show all14 s = split (s.length + 1) 1 s from rfl, split_rst (s.length + 1) 1 s]
    show _ = pre [] (split (s.length + 1) (lin 1 s) (rst s))
    cases split (s.length + 1) (lin 1 s) (rst s) <;> simp [pre], b⟩))
  have hz0 : nls (s.take (skp false s)) ≤ 65536 := by omega
  clear h16 hs0 T hn0 hrl
  generalize nls (s.take (skp false s)) = n0 at *
  generalize rst s = r0 at *
  go_enter Tryz.func11, Tryz.ntmps11
  go_wp2_with fail
  refine HS0.out.mono ?_
  rintro e w1 ⟨rfl, b1⟩
  have H1 := Lib.hid (H0.out _ b1)
  clear b1
  go_wp2_with fail
  go_loopg [2, 3, 5] r0.length (fun g v2 v3 v5 wr => LwRel s w g v2 v3 v5 wr)
  case atStart => exact H1.out
  case round =>
    obtain ⟨ts, ln, r, hrg, htr, hln, rfl, rfl, hr, hl, hown, hall, hb⟩ := hrel
    clear H1
    have HOW := Lib.hid hown
    have HAL := Lib.hid hall
    have HB := Lib.hid hb
    have hBs := hb.size
    have HR := Lib.hid hr
    have HL := Lib.hid hl
    clear hown hall hb hr hl
    cases r with
    | nil =>
      have hall := lp_end HAL.out
      obtain ⟨ao, cap, rfl, hrd, hcap⟩ := ownk_formC HOW.out
      have HRD := Lib.hid hrd
      clear hrd
      by_cases hm : 4096 < ts.length
      · have HX := Lib.hid (pg_many hs hall hm)
        have hm2 : (4096 : Int) < ((ts.length : Nat) : Int) := by omega
        obtain ⟨q, o, rfl, hq, c0, c1, c2⟩ := HRD.out.at hm
        clear hall hm
        obtain ⟨L, hL⟩ : ∃ L, (ts.getD 4096 noT).l = L := ⟨_, rfl⟩
        rw [hL] at c2
        rw [show (ts.getD 4096 noT1).l = L from hL] at HX
        have d2 : wr.cell? ⟨q, o + 12288 + 2, none⟩ = some (.int .i64 (L : Nat)) := c2
        have d3 : wr.cell? ⟨q, o + 12290, none⟩ = some (.int .i64 (L : Nat)) := c2
        clear hL
        clear c0 c1 c2
        go_wp2_with fail
        go_quiet (fail)
        go_wp2
        go_ret3
        refine ⟨lx_dr HB.out _, none, 0, ?_, ?_⟩
        · rw [HX.out.1, HX.out.2.1, HX.out.2.2]; rfl
        · rw [HX.out.2.2]; exact ⟨.inl rfl, Nat.zero_le _, fun a e => by cases e⟩
      · have HX := Lib.hid (pg_all hs hall (by omega))
        have hm2 : ¬ (4096 : Int) < ((ts.length : Nat) : Int) := by omega
        clear hall hm
        go_wp2
        go_ret3
        refine ⟨HB.out, ao, cap, ?_, ?_⟩
        · rw [HX.out.1, HX.out.2.1, HX.out.2.2]; rfl
        · rw [HX.out.2.2]; exact ⟨HRD.out, hcap.1, hcap.2⟩
    | cons c t =>
      have hrl : (c :: t).length ≤ 65536 := by omega
      have hts : ts.length ≤ 65536 := by omega
      have hlnn : ln ≤ 65537 := by omega
      have hnlr := nls_le (c :: t)
      have hM : s.length + 1 - ts.length = (s.length - ts.length) + 1 := by omega
      have HAL2 := Lib.hid (show all14 s = pre ts (split ((s.length - ts.length) + 1) ln (c :: t)) by rw [← hM]; exact HAL.out)
      have hN := lnext_walk c t (by omega) wr (HT.out _ HB.out)
      unfold TkPost at hN
      have hne : (c :: t).isEmpty = false := rfl
      have hne2 : (c :: t) ≠ [] := by simp
      have hpos : 0 < (c :: t).length := by simp
      cases hx : nxP (c :: t) with
      | none =>
        rw [hx] at hN
        have HN := Lib.hid hN
        have HX := Lib.hid (pg_er hs (lp_no HAL2.out HR.out HL.out hne2 hx))
        clear hN hx hne2 hM
        generalize c :: t = S at *
        go_wp2_with fail
        refine HN.out.mono ?_
        rintro e w2 ⟨rfl, b2⟩
        have HB2 := Lib.hid ((HB.out.trans (b2.mono hBs)).alloc (Nat.le_trans hBs b2.size) (.cells #[.int .i64 0, .string (bs []), .int .i64 0] 72))
        clear b2
        go_wp2
        go_ret3
        refine ⟨HB2.out, none, 0, ?_, ?_⟩
        · rw [HX.out.1, HX.out.2.1, HX.out.2.2]; rfl
        · rw [HX.out.2.2]; exact ⟨.inl rfl, Nat.zero_le _, fun a e => by cases e⟩
      | some y =>
        obtain ⟨⟨k, tt⟩, q⟩ := y
        rw [hx] at hN
        obtain ⟨n, hn1, hn2⟩ := nxP_some hx
        have hn3 := nxt_n hn1
        have hql : q.length + 1 ≤ (c :: t).length := by rw [← hn2, List.length_drop]; omega
        have hnq : nls q ≤ nls (c :: t) := by
          rw [← hn2]
          have : nls (c :: t) = nls ((c :: t).take n) + nls ((c :: t).drop n) := by rw [← nls_app, List.take_append_drop]
          omega
        have HGO := Lib.hid (lp_go HAL2.out HR.out HL.out hne2 hx)
        have HN := Lib.hid hN
        have hSK := fun w1 T1 => lskip_walk q (by omega) w1 T1
        have hnr := nls_rst q
        have hrq := rst_len q
        obtain ⟨G, rfl⟩ : ∃ G, gk = G + 1 := ⟨gk - 1, by omega⟩
        have HNX := Lib.hid (fun v' w' (ho : OwnK w' w.heap.size 72 v' (ts ++ [⟨k, tt, ln⟩])) (b : Below w.heap.size w w') => (show LwRel s w G v' (.int .i64 ((lin ln q : Nat) : Int)) (.string (bs (rst q))) w' from ⟨ts ++ [⟨k, tt, ln⟩], lin ln q, rst q, by omega, by rw [List.length_append]; simp only [List.length_singleton]; omega, by unfold lin; omega, rfl, rfl, rst_rst q, lin_rst _ q, ho, by
          rw [HGO.out, List.length_append, show s.length + 1 - (ts.length + [(⟨k, tt, ln⟩ : Tk)].length) = s.length - ts.length by rw [List.length_singleton]; omega], b⟩))
        have hlq : ((ln : Nat) : Int) + ((nls (q.take (skp false q)) : Nat) : Int) = ((lin ln q : Nat) : Int) := by unfold lin; omega
        have hlq2 : lin ln q ≤ 200000 := by unfold lin; omega
        have HSK := Lib.hid hSK
        clear hN hx hne2 hM hn1 hn2 hn3 hql hnq hSK hnr hrq hnlr
        generalize c :: t = S at *
        generalize nls (q.take (skp false q)) = nq at *
        generalize rst q = rq at *
        generalize lin ln q = lq at *
        obtain ⟨ao, cap, rfl, hrd, hcap⟩ := ownk_formC HOW.out
        clear hrd
        go_wp2_with fail
        refine HN.out.mono ?_
        rintro e w2 ⟨rfl, b2⟩
        have HOW2 := Lib.hid (fun X => World.ownsRow.alloc (HOW.out.below b2) X)
        have HB2 := Lib.hid (fun X => (HB.out.trans (b2.mono hBs)).alloc (Nat.le_trans hBs b2.size) X)
        clear b2
        have hown : OwnK (w2.alloc (.cells #[.int .i64 (k : Nat), .string (bs tt), .int .i64 (ln : Nat)] 72)) w.heap.size 72 _ ts := HOW2.out (.cells #[.int .i64 (k : Nat), .string (bs tt), .int .i64 (ln : Nat)] 72)
        have hBs4 : w.heap.size ≤ (w2.alloc (.cells #[.int .i64 (k : Nat), .string (bs tt), .int .i64 (ln : Nat)] 72)).heap.size := (HB2.out _).size
        have hbz4 := Lib.hid (show w2.heap.size + 1 = (w2.alloc (.cells #[.int .i64 (k : Nat), .string (bs tt), .int .i64 (ln : Nat)] 72)).heap.size by simp)
        go_wp2_with (at_builtin; refine appKl (p := ⟨k, tt, ln⟩) rfl rfl rfl hown rfl hbz4.out (by omega) hBs4 ?_)
        intro v' w' hown2 hbb
        have HO2 := Lib.hid hown2; have HB4 := Lib.hid (hbb _ (HB2.out _))
        clear hown2 hbb hown
        go_wp2_with fail
        refine (HSK.out _ (HT.out _ HB4.out)).mono ?_
        rintro e w3 ⟨rfl, b3⟩
        have HXX := Lib.hid (HNX.out _ _ (HO2.out.below b3) (HB4.out.trans (b3.mono HB4.out.size)))
        clear b3
        go_wp2
        go_roundg G
        case measure => omega
        case rel => exact HXX.out
theorem lsplit_walk (s : List UInt8) (hs0 : s.length ≤ 140737488355327) (w : World) (T : LxI w) : Calls Tryz.prog 11 #[.string (bs s)] w (PglPost s w) :=
  (lsplitC_walk s hs0 w T).mono fun e w' ⟨h1, ao, cap, h2, h3, _⟩ => ⟨h1, ao, cap, h2, h3⟩
end Go.Proofs.YtaeglmgpoboihaaGreatDoor
