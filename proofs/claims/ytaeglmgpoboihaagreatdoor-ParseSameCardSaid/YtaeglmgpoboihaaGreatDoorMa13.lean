/- Texts on the program and on the document, joined: LexG, ParU. -/
import Derived.Test.YtaeglmgpoboihaaGreatDoorMa05
import Derived.Test.YtaeglmgpoboihaaGreatDoorMa10
import Derived.Test.YtaeglmgpoboihaaGreatDoorMa12
import Derived.Test.YtaeglmgpoboihaaGreatDoorMa04
/- The document's Split, walked. -/
namespace Go.Proofs.YtaeglmgpoboihaaGreatDoor
open Go.ChangeShapes Go.WideShapes Go.ChangeAt Go.RowKit K L14
set_option linter.unusedVariables false

/-- What Split answers: the tokens; or why there are none, and the line. -/
def spE (s : List UInt8) : Nat := if 65536 < s.length then 2 else match split 4096 1 s with | .ok _ => 0 | .error e => e.2
def spN (s : List UInt8) : Nat := if 65536 < s.length then 0 else match split 4096 1 s with | .ok _ => 0 | .error e => e.1
def spL (s : List UInt8) : List Tk := if 65536 < s.length then [] else match split 4096 1 s with | .ok l => l | .error _ => []
def SplPost (s : List UInt8) (w : World) (e : Ending) (w' : World) : Prop :=
  Below w.heap.size w w' ∧ ∃ ao cap, e = .returned (.tuple #[.slice ao (spL s).length cap, .int .i64 (spN s : Nat), .int .i64 (spE s : Nat)]) ∧ RdK w' ao (spL s)
theorem sp_ok {s : List UInt8} {l : List Tk} (hs : s.length ≤ 65536) (h : split 4096 1 s = .ok l) : spE s = 0 ∧ spN s = 0 ∧ spL s = l := by
  unfold spE spN spL; rw [if_neg (by omega), if_neg (by omega), if_neg (by omega), h]; exact ⟨rfl, rfl, rfl⟩
theorem sp_er {s : List UInt8} {e : Nat × Nat} (hs : s.length ≤ 65536) (h : split 4096 1 s = .error e) : spE s = e.2 ∧ spN s = e.1 ∧ spL s = [] := by
  unfold spE spN spL; rw [if_neg (by omega), if_neg (by omega), if_neg (by omega), h]; exact ⟨rfl, rfl, rfl⟩
def pre (ts : List Tk) (x : Except (Nat × Nat) (List Tk)) : Except (Nat × Nat) (List Tk) := match x with | .error e => .error e | .ok l => .ok (ts ++ l)
def SnRel14 (s : List UInt8) (p n ln : Nat) (w : World) (g : Nat) (v6 v9 : Value) (wr : World) : Prop :=
  wr = w ∧ ∃ m, m + g = n ∧ v9 = .int .i64 ((p + m : Nat) : Int) ∧ v6 = .int .i64 ((ln + nls ((s.drop p).take m) : Nat) : Int)
theorem spl_end {s : List UInt8} (hs : s.length ≤ 65536) {ts : List Tk} {m ln p : Nat} (h : split 4096 1 s = pre ts (split m ln (s.drop p))) (hr : rst (s.drop p) = []) : spE s = 0 ∧ spN s = 0 ∧ spL s = ts := by
  rw [split_end hr] at h
  exact sp_ok hs (by rw [h]; simp [pre])
theorem spl_no {s : List UInt8} (hs : s.length ≤ 65536) {ts : List Tk} {m ln p : Nat} (h : split 4096 1 s = pre ts (split m ln (s.drop p))) (hr : ¬ rst (s.drop p) = []) (hx : nxt (rst (s.drop p)) = none) : spE s = 140 ∧ spN s = lin ln (s.drop p) ∧ spL s = [] := by
  rw [split_no hr hx] at h
  exact sp_er hs h
theorem spl_full {s : List UInt8} (hs : s.length ≤ 65536) {ts : List Tk} {m ln p : Nat} (h : split 4096 1 s = pre ts (split m ln (s.drop p))) (h0 : m = 0) (hr : ¬ rst (s.drop p) = []) {y : (Nat × List UInt8) × Nat} (hx : nxt (rst (s.drop p)) = some y) : spE s = 2 ∧ spN s = lin ln (s.drop p) ∧ spL s = [] := by
  subst h0
  rw [split_full hr hx] at h
  exact sp_er hs h
theorem spl_go {s : List UInt8} {ts : List Tk} {ln p n q : Nat} {c : UInt8} {r : List UInt8} {k L : Nat} {t : List UInt8} (h : split 4096 1 s = pre ts (split (4096 - ts.length) ln (s.drop p))) (hr : rst (s.drop p) = c :: r) (hL : lin ln (s.drop p) = L) (hx : nxt (c :: r) = some ((k, t), n)) (hq : (c :: r).drop n = s.drop q) (ht : ts.length < 4096) : split 4096 1 s = pre (ts ++ [⟨k, t, L⟩]) (split (4096 - (ts ++ [(⟨k, t, L⟩ : Tk)]).length) L (s.drop q)) := by
  rw [h, show 4096 - ts.length = (4096 - (ts ++ [(⟨k, t, L⟩ : Tk)]).length) + 1 by rw [List.length_append]; simp; omega, split_go (by rw [hr]; simp) (by rw [hr]; exact hx), hL, hr, hq]
  cases split (4096 - (ts ++ [(⟨k, t, L⟩ : Tk)]).length) L (s.drop q) <;> simp [pre]
theorem nls_le (s : List UInt8) : nls s ≤ s.length := List.countP_le_length
end Go.Proofs.YtaeglmgpoboihaaGreatDoor
/- Books among rows: tables, rules and watches as a call makes them; a book step by step; tokens of a file are short. -/
namespace Go.Proofs.YtaeglmgpoboihaaGreatDoor
open Go.ChangeShapes Go.WideShapes Go.ChangeAt Go.RowKit K L15 S3
open L14 (Tk)
set_option linter.unusedVariables false

/-- Rows that stand for things, one by one. -/
def RlR {α : Type} (R : List Value → α → Prop) : List (List Value) → List α → Prop
  | [], [] => True
  | r :: rs, s :: ss => R r s ∧ RlR R rs ss
  | _, _ => False
theorem RlR.imp {α : Type} {R R' : List Value → α → Prop} (k : ∀ r s, R r s → R' r s) : ∀ {rs : List (List Value)} {ss : List α}, RlR R rs ss → RlR R' rs ss
  | [], [], _ => trivial
  | [], _ :: _, h => h
  | _ :: _, [], h => h
  | r :: rs, s :: ss, ⟨h1, h3⟩ => ⟨k _ _ h1, RlR.imp k h3⟩
theorem RlR.len {α : Type} {R : List Value → α → Prop} : ∀ {rs : List (List Value)} {ss : List α}, RlR R rs ss → rs.length = ss.length
  | [], [], _ => rfl
  | [], _ :: _, h => h.elim
  | _ :: _, [], h => h.elim
  | r :: rs, s :: ss, ⟨_, h3⟩ => by rw [List.length_cons, List.length_cons, RlR.len h3]
theorem RlR.snoc {α : Type} {R : List Value → α → Prop} : ∀ {rs : List (List Value)} {ss : List α} {r : List Value} {s : α}, RlR R rs ss → R r s → RlR R (rs ++ [r]) (ss ++ [s])
  | [], [], _, _, _, h => ⟨h, trivial⟩
  | [], _ :: _, _, _, h, _ => h.elim
  | _ :: _, [], _, _, h, _ => h.elim
  | r :: rs, s :: ss, _, _, ⟨h1, h3⟩, h => ⟨h1, RlR.snoc h3 h⟩
/-- One table's row, one rule's, one watch's. -/
def TbRow (w : World) (r : List Value) (t : Tb) : Prop := ∃ po pc, r = [.string (bs t.n), .int .i64 t.l, .slice po t.ks.length pc, .string (bs t.e)] ∧ RdRw w 68 2 po (t.ks.map prRow)
def RuRow (w : World) (r : List Value) (x : Ru) : Prop := ∃ po pc qo qc rs, r = [.string (bs x.n), .int .i64 x.l, .int .i64 x.fr, .string (bs x.oid), .bool x.wi, .slice po x.ts.length pc, .slice qo x.ss.length qc, .bool x.dr] ∧ RdRw w 83 3 po (x.ts.map tsRow) ∧ RdRw w 53 2 qo rs ∧ SetsR w rs x.ss
def wtRow (x : Wt) : List Value := [.string (bs x.n), .int .i64 x.l, .int .i64 x.k, .string (bs x.cl), .string (bs x.ot), .int .i64 x.ct, .int .i64 x.wn, .string (bs x.ra), .int .i64 x.lv, .string (bs x.tx)]
def TbsR (w : World) (rs : List (List Value)) (l : List Tb) : Prop := RlR (TbRow w) rs l
def RusR (w : World) (rs : List (List Value)) (l : List Ru) : Prop := RlR (RuRow w) rs l
theorem TbsR.keep {w w' : World} (k : ∀ po rows, RdRw w 68 2 po rows → RdRw w' 68 2 po rows) {rs : List (List Value)} {l : List Tb} (h : TbsR w rs l) : TbsR w' rs l :=
  RlR.imp (fun r s ⟨po, pc, e, h⟩ => ⟨po, pc, e, k _ _ h⟩) h
theorem RusR.keep {w w' : World} (k1 : ∀ po rows, RdRw w 83 3 po rows → RdRw w' 83 3 po rows) (k2 : ∀ po rows, RdRw w 53 2 po rows → RdRw w' 53 2 po rows) (k3 : ∀ po rows, RdRw w 50 3 po rows → RdRw w' 50 3 po rows) {rs : List (List Value)} {l : List Ru} (h : RusR w rs l) : RusR w' rs l :=
  RlR.imp (fun r s ⟨po, pc, qo, qc, rs, e, h1, h2, h3⟩ => ⟨po, pc, qo, qc, rs, e, k1 _ _ h1, k2 _ _ h2, h3.keep k3⟩) h
theorem TbsR.below {w w' : World} {rs : List (List Value)} {l : List Tb} (h : TbsR w rs l) (k : Below w.heap.size w w') : TbsR w' rs l := h.keep fun _ _ x => x.below k
theorem RusR.below {w w' : World} {rs : List (List Value)} {l : List Ru} (h : RusR w rs l) (k : Below w.heap.size w w') : RusR w' rs l := h.keep (fun _ _ x => x.below k) (fun _ _ x => x.below k) (fun _ _ x => x.below k)
theorem TbsR.set {w : World} {rs : List (List Value)} {l : List Tb} (h : TbsR w rs l) {U : TypeId} {r : Nat} {cs : Array Value} {fr : Nat × Nat} (hr : w.heap[r]? = some (.cells cs U fr)) (hT : 68 ≠ U) (i : Nat) (u : Value) : TbsR (w.setCell ⟨r, i, none⟩ u) rs l := h.keep fun _ _ x => x.set hr hT i u
theorem RusR.set {w : World} {rs : List (List Value)} {l : List Ru} (h : RusR w rs l) {U : TypeId} {r : Nat} {cs : Array Value} {fr : Nat × Nat} (hr : w.heap[r]? = some (.cells cs U fr)) (hT : 83 ≠ U ∧ 53 ≠ U ∧ 50 ≠ U) (i : Nat) (u : Value) : RusR (w.setCell ⟨r, i, none⟩ u) rs l := h.keep (fun _ _ x => x.set hr hT.1 i u) (fun _ _ x => x.set hr hT.2.1 i u) (fun _ _ x => x.set hr hT.2.2 i u)
theorem TbsR.grown {w w' : World} {rs : List (List Value)} {l : List Tb} (h : TbsR w rs l) {U : TypeId} {n B m : Nat} {v : Value} {xs : List Value} (k : w.grownBy w' v.ownBlock) (ho : w.ownsRow B U n v m xs) (hT : 68 ≠ U) : TbsR w' rs l := h.keep fun _ _ x => x.grown k ho hT
theorem RusR.grown {w w' : World} {rs : List (List Value)} {l : List Ru} (h : RusR w rs l) {U : TypeId} {n B m : Nat} {v : Value} {xs : List Value} (k : w.grownBy w' v.ownBlock) (ho : w.ownsRow B U n v m xs) (hT : 83 ≠ U ∧ 53 ≠ U ∧ 50 ≠ U) : RusR w' rs l := h.keep (fun _ _ x => x.grown k ho hT.1) (fun _ _ x => x.grown k ho hT.2.1) (fun _ _ x => x.grown k ho hT.2.2)
theorem tbinfo : (Tryz.prog.info? 34).map (fun i => (i.zero, i.size, i.bytes)) = some (some (.agg #[.string .empty, .int .i64 0, .slice none 0 0, .string .empty]), 4, 64) := by kernel_rfl
theorem ruinfo : (Tryz.prog.info? 38).map (fun i => (i.zero, i.size, i.bytes)) = some (some (.agg #[.string .empty, .int .i64 0, .int .i64 0, .string .empty, .bool false, .slice none 0 0, .slice none 0 0, .bool false]), 8, 112) := by kernel_rfl
theorem wtinfo : (Tryz.prog.info? 40).map (fun i => (i.zero, i.size, i.bytes)) = some (some (.agg #[.string .empty, .int .i64 0, .int .i64 0, .string .empty, .string .empty, .int .i64 0, .int .i64 0, .string .empty, .int .i64 0, .string .empty]), 10, 120) := by kernel_rfl
/-! ### A book, step by step -/
section
variable {T : List Tk} {last : Nat}
theorem bo_stop {s : Pi} (h : more T s = false) (b : Bk) : ∀ g, books T last g b s = (b, s)
  | 0 => rfl
  | g + 1 => by rw [books, h]; rfl
theorem more_bad {s : Pi} (h : s.bad ≠ none) : more T s = false := by
  unfold more
  cases hb : s.bad with
  | none => exact absurd hb h
  | some _ => rfl
theorem more_end {s : Pi} (h : ¬ s.p < T.length) : more T s = false := by unfold more; rw [decide_eq_false h, Bool.and_false]
theorem more_yes {s : Pi} (hb : s.bad = none) (h : s.p < T.length) : more T s = true := by unfold more; rw [hb, decide_eq_true h]; rfl
theorem bo_table {s : Pi} (h : more T s = true) (h1 : at_ T s 1 wTable = true) (b : Bk) (g : Nat) : books T last (g + 1) b s = books T last g { b with tb := b.tb ++ [(table T last (lineAt T s : Nat) (nx s)).1] } (table T last (lineAt T s : Nat) (nx s)).2 := by
  rw [books, h, if_pos rfl, word_yes h1, if_pos rfl]
theorem bo_rule {s : Pi} (h : more T s = true) (h1 : at_ T s 1 wTable = false) (h2 : at_ T s 1 wRule = true) (b : Bk) (g : Nat) : books T last (g + 1) b s = books T last g { b with ru := b.ru ++ [(rule T last (lineAt T s : Nat) (nx s)).1] } (rule T last (lineAt T s : Nat) (nx s)).2 := by
  rw [books, h, if_pos rfl, word_no h1, word_yes h2]
  rw [if_neg Bool.false_ne_true, if_pos rfl]
theorem bo_watch {s : Pi} (h : more T s = true) (h1 : at_ T s 1 wTable = false) (h2 : at_ T s 1 wRule = false) (h3 : at_ T s 1 wWatch = true) (b : Bk) (g : Nat) : books T last (g + 1) b s = books T last g { b with wt := b.wt ++ [(watch T last (lineAt T s : Nat) (nx s)).1] } (watch T last (lineAt T s : Nat) (nx s)).2 := by
  rw [books, h, if_pos rfl, word_no h1, word_no h2, word_yes h3]
  rw [if_neg Bool.false_ne_true, if_neg Bool.false_ne_true, if_pos rfl]
theorem bo_none {s : Pi} (h : more T s = true) (h1 : at_ T s 1 wTable = false) (h2 : at_ T s 1 wRule = false) (h3 : at_ T s 1 wWatch = false) (b : Bk) (g : Nat) : books T last (g + 1) b s = books T last g b (fail T last s) := by
  rw [books, h, if_pos rfl, word_no h1, word_no h2, word_no h3]
  rw [if_neg Bool.false_ne_true, if_neg Bool.false_ne_true, if_neg Bool.false_ne_true]
end
theorem keys_pp (T : List Tk) (last : Nat) : ∀ (f : Nat) (s : Pi), s.p ≤ (keys T last f s).2.p
  | 0, s => Nat.le_refl _
  | f + 1, s => by
    rw [keys]
    split
    · next h =>
      have h1 := keys_p (last := last) h
      have h2 := keys_pp T last f (sign T last [59] (L15.text T last (sign T last [61] (L15.text T last s).2)).2)
      show s.p ≤ (keys T last f _).2.p
      omega
    · exact Nat.le_refl _
theorem els_p (T : List Tk) (last : Nat) (s : Pi) : s.p ≤ (els T last s).2.p := by
  unfold els
  have h0 := word_p T wElse s
  split
  · have h1 := text_p T last (word T wElse s).2
    have h2 := sign_p T last [59] (L15.text T last (word T wElse s).2).2
    show s.p ≤ (sign T last [59] _).p
    omega
  · exact Nat.le_refl _
theorem table_p (T : List Tk) (last : Nat) (ln : Int) (s : Pi) : s.p ≤ (table T last ln s).2.p := by
  have h1 := take_p T last 1 [] s
  have h2 := sign_p T last [123] (L15.take T last 1 [] s).2
  have h3 := keys_pp T last (T.length + 1) (sign T last [123] (L15.take T last 1 [] s).2)
  have h4 := els_p T last (keys T last (T.length + 1) (sign T last [123] (L15.take T last 1 [] s).2)).2
  have h5 := sign_p T last [125] (els T last (keys T last (T.length + 1) (sign T last [123] (L15.take T last 1 [] s).2)).2).2
  show s.p ≤ (sign T last [125] _).p
  omega
theorem clauses_p (T : List Tk) (last : Nat) : ∀ (f : Nat) (ts : List Ts) (ss : List St) (d : Bool) (s : Pi), s.p ≤ (clauses T last f ts ss d s).2.2.2.p
  | 0, ts, ss, d, s => Nat.le_refl _
  | f + 1, ts, ss, d, s => by
    have hn : (nx s).p = s.p + 1 := rfl
    rw [clauses]
    split
    · split
      · have h1 := test_p T last (nx s)
        have h2 := clauses_p T last f (ts ++ [(test T last (nx s)).1]) ss d (test T last (nx s)).2
        omega
      · split
        · have h1 := set_p T last (nx s)
          have h2 := clauses_p T last f ts (ss ++ [(L15.set T last (nx s)).1]) d (L15.set T last (nx s)).2
          omega
        · split
          · have h1 := sign_p T last [59] (nx s)
            have h2 := clauses_p T last f ts ss true (sign T last [59] (nx s))
            omega
          · have h2 := clauses_p T last f ts ss d (fail T last s)
            rw [fail_p] at h2
            omega
    · exact Nat.le_refl _
theorem how_p (T : List Tk) (s : Pi) : s.p ≤ (how T s).2.p := by
  unfold how
  split
  · exact word_p T wWithin s
  · exact word_p T wIs s
theorem oid_p (T : List Tk) (last : Nat) (s : Pi) : s.p ≤ (oid T last s).2.p := by
  have h0 := how_p T s
  unfold oid
  split
  · have h1 := take_p T last 2 [] (how T s).2; omega
  · exact h0
theorem trapped_p (T : List Tk) (last : Nat) (s : Pi) : s.p ≤ (trapped T last s).p := by
  unfold trapped
  split
  · exact word_p T wTrap s
  · rw [fail_p]; omega
theorem from_p (T : List Tk) (last : Nat) (s : Pi) : s.p ≤ (from_ T last s).2.2.2.p := by
  unfold from_
  split
  · exact word_p T wLog s
  · exact Nat.le_trans (trapped_p T last s) (oid_p T last _)
theorem rule_p (T : List Tk) (last : Nat) (ln : Int) (s : Pi) : s.p ≤ (rule T last ln s).2.p := by
  have h1 := take_p T last 1 [] s
  have h2 := from_p T last (L15.take T last 1 [] s).2
  have h3 := sign_p T last [123] (from_ T last (L15.take T last 1 [] s).2).2.2.2
  have h4 := clauses_p T last (T.length + 2) [] [] false (sign T last [123] (from_ T last (L15.take T last 1 [] s).2).2.2.2)
  have h5 := sign_p T last [125] (clauses T last (T.length + 2) [] [] false (sign T last [123] (from_ T last (L15.take T last 1 [] s).2).2.2.2)).2.2.2
  show s.p ≤ (sign T last [125] _).p
  omega
theorem kindF_p (T : List Tk) (last : Nat) : ∀ (l : List (List UInt8)) (i : Nat) (s : Pi), s.p ≤ (kindF T last l i s).2.p
  | [], i, s => by rw [kindF]; show s.p ≤ (fail T last s).p; rw [fail_p]; omega
  | x :: r, i, s => by
    rw [kindF]
    split
    · show s.p ≤ s.p + 1; omega
    · exact kindF_p T last r (i + 1) s
theorem watches_p (T : List Tk) (last : Nat) : ∀ (f : Nat) (x : Wt) (seen : List Nat) (s : Pi), s.p ≤ (watches T last f x seen s).2.p
  | 0, x, seen, s => Nat.le_refl _
  | f + 1, x, seen, s => by
    rw [watches]
    split
    · have h1 : s.p ≤ (clause T last x seen s).2.2.p := by
        have hw := which_p T last seen wClauses 0 none s
        unfold clause
        cases hc : which T last seen wClauses 0 none s with
        | mk a sa =>
          rw [hc] at hw
          have h0 : s.p ≤ sa.p := hw.1
          have key : ∀ sz : Pi, sa.p ≤ sz.p → s.p ≤ (sign T last [59] sz).p := fun sz hz => by
            have := sign_p T last [59] sz
            omega
          cases a with
          | none => show s.p ≤ (fail T last sa).p; rw [fail_p]; exact h0
          | some j =>
            simp only
            split
            · exact key _ (text_p T last sa)
            · split
              · exact key _ (text_p T last sa)
              · split
                · exact key _ (number_p T last sa)
                · split
                  · exact key _ (span_p T last sa)
                  · exact key _ (Nat.le_trans (text_p T last sa) (Nat.le_trans (number_p T last _) (text_p T last _)))
      have h2 := watches_p T last f (clause T last x seen s).1 (clause T last x seen s).2.1 (clause T last x seen s).2.2
      omega
    · exact Nat.le_refl _
theorem watch_p (T : List Tk) (last : Nat) (ln : Int) (s : Pi) : s.p ≤ (watch T last ln s).2.p := by
  have h1 := take_p T last 1 [] s
  have h2 := kindF_p T last wKinds 0 (L15.take T last 1 [] s).2
  have h3 := sign_p T last [123] (kind T last (L15.take T last 1 [] s).2).2
  have h4 := watches_p T last (T.length + 2) ⟨(L15.take T last 1 [] s).1, ln, (kind T last (L15.take T last 1 [] s).2).1, [], [], 0, 0, [], 0, []⟩ [] (sign T last [123] (kind T last (L15.take T last 1 [] s).2).2)
  have h5 := sign_p T last [125] (watches T last (T.length + 2) ⟨(L15.take T last 1 [] s).1, ln, (kind T last (L15.take T last 1 [] s).2).1, [], [], 0, 0, [], 0, []⟩ [] (sign T last [123] (kind T last (L15.take T last 1 [] s).2).2)).2
  have h6 : (kind T last (L15.take T last 1 [] s).2).2 = (kindF T last wKinds 0 (L15.take T last 1 [] s).2).2 := rfl
  rw [h6] at h3
  show s.p ≤ (sign T last [125] _).p
  rw [h6] at h4 h5 ⊢
  omega
/-! ### Tokens are short -/
theorem txt_t : ∀ (f : Nat) (s o : List UInt8) (n : Nat), L14.txt f s = some (o, n) → o.length ≤ s.length
  | 0, _, _, _, h => by cases h
  | f + 1, [], _, _, h => by cases h
  | f + 1, c :: t, o, n, h => by
    simp only [L14.txt] at h
    split at h
    · injection h with h; injection h with h _; subst h; simp
    · split at h
      · cases h
      · split at h
        · cases he : L14.esc t with
          | none => rw [he] at h; cases h
          | some y =>
            obtain ⟨b, k⟩ := y
            rw [he] at h
            simp only at h
            obtain ⟨z, hz, h⟩ := Option.map_eq_some_iff.1 h
            obtain ⟨z1, z2⟩ := z
            have := txt_t f _ _ _ hz
            have he' := L14.esc_n he
            injection h with h _
            rw [List.length_drop] at this
            simp only at h
            subst h
            simp only [List.length_cons]; omega
        · obtain ⟨z, hz, h⟩ := Option.map_eq_some_iff.1 h
          obtain ⟨z1, z2⟩ := z
          have := txt_t f _ _ _ hz
          injection h with h _
          simp only at h
          subst h
          simp only [List.length_cons]; omega
theorem nxt_t {s : List UInt8} {k : Nat} {t : List UInt8} {n : Nat} (h : L14.nxt s = some ((k, t), n)) : t.length ≤ s.length := by
  cases s with
  | nil => cases h
  | cons c r =>
    simp only [L14.nxt] at h
    split at h
    · injection h with h; injection h with h _; injection h with _ h; subst h; simp
    · split at h
      · injection h with h; injection h with h _; injection h with _ h; subst h; rw [List.length_take]; omega
      · split at h
        · injection h with h; injection h with h _; injection h with _ h; subst h; rw [List.length_take]; omega
        · split at h
          · split at h
            · cases h
            · injection h with h; injection h with h _; injection h with _ h; subst h; rw [List.length_take, List.length_cons]; omega
          · split at h
            · obtain ⟨y, hy, h⟩ := Option.map_eq_some_iff.1 h
              obtain ⟨o, m⟩ := y
              have := txt_t _ _ _ _ hy
              injection h with h _
              injection h with _ h
              simp only at h
              subst h
              simp only [List.length_cons]; omega
            · cases h
theorem split_short : ∀ (n m ln : Nat) (s : List UInt8) (k : List Tk), s.length ≤ n → L14.split m ln s = .ok k → ∀ x ∈ k, x.t.length ≤ s.length := by
  intro n
  induction n with
  | zero =>
    intro m ln s k hs h
    have : s = [] := List.length_eq_zero_iff.1 (by omega)
    subst this
    rw [L14.split_end (by rfl)] at h
    injection h with h; subst h
    intro x hx; simp at hx
  | succ n ih =>
    intro m ln s k hs h
    by_cases hr : L14.rst s = []
    · rw [L14.split_end hr] at h
      injection h with h; subst h
      intro x hx; simp at hx
    · cases hx : L14.nxt (L14.rst s) with
      | none => rw [L14.split_no hr hx] at h; cases h
      | some z =>
        obtain ⟨⟨kk, t⟩, j⟩ := z
        cases m with
        | zero => rw [L14.split_full hr hx] at h; cases h
        | succ m =>
          rw [L14.split_go hr hx] at h
          have hn := L14.nxt_n hx
          have hl := L14.rst_len s
          have ht := nxt_t hx
          cases hs2 : L14.split m (L14.lin ln s) ((L14.rst s).drop j) with
          | error e => rw [hs2] at h; cases h
          | ok q =>
            rw [hs2] at h
            injection h with h; subst h
            have h2 := ih m _ _ q (by rw [List.length_drop]; omega) hs2
            intro x hx
            rcases List.mem_cons.1 hx with rfl | hx
            · show t.length ≤ s.length; omega
            · have := h2 x hx; rw [List.length_drop] at this; omega
theorem spl_short (s : List UInt8) : ShortT (spL s) ∧ (spL s).length ≤ 4096 := by
  unfold spL
  split
  · exact ⟨fun x hx => by simp at hx, by simp⟩
  · next h6 =>
    cases hs : L14.split 4096 1 s with
    | error e => exact ⟨fun x hx => by simp at hx, by simp⟩
    | ok l => exact ⟨fun x hx => by have := split_short _ _ _ _ _ (Nat.le_refl _) hs x hx; omega, (L14.split_is _ _ _ _ _ (Nat.le_refl _) hs).2⟩
end Go.Proofs.YtaeglmgpoboihaaGreatDoor
