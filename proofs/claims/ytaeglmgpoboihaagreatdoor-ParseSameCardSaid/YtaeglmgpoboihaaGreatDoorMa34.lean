/- Texts on the program and on the document, joined: LxqK, LxqL, LexT, LexOk. -/
import Derived.Test.YtaeglmgpoboihaaGreatDoorMa29
import Derived.Test.YtaeglmgpoboihaaGreatDoorMa33
import Derived.ChangeKeysEq
import Derived.Laws.StructEq
/- The program's spelled, reads and gap, walked. -/
namespace Go.Proofs.YtaeglmgpoboihaaGreatDoor
open Go.ChangeShapes Go.WideShapes Go.ChangeAt Go.RowKit K L14
set_option linter.unusedVariables false

/-- A token as it stands in a file, if it is one. -/
def spQ (x : Tq) : List UInt8 := if x.k = 3 then 36 :: x.t else if x.k = 4 then quo x.t else x.t
theorem spQ_put {x : Tq} (h : isT (kN x.k) x.t = true) : spQ x = put (kN x.k) x.t := by
  have hk := kN_tok h
  generalize hn : kN x.k = n at *
  unfold isT at h
  unfold spQ put
  by_cases k1 : n = 1
  · subst k1; rw [if_pos rfl] at h; rw [if_neg (by omega), if_neg (by omega), if_pos rfl, h]; rfl
  rw [if_neg k1] at h ⊢
  by_cases k2 : n = 2
  · subst k2; rw [if_pos rfl] at h; rw [if_neg (by omega), if_neg (by omega), if_pos rfl, h]; rfl
  rw [if_neg k2] at h ⊢
  by_cases k3 : n = 3
  · subst k3; rw [if_pos rfl] at h; rw [if_pos (by omega), if_pos rfl, h]; rfl
  rw [if_neg k3] at h ⊢
  by_cases k4 : n = 4
  · subst k4; rw [if_neg (by omega), if_pos (by omega), if_pos rfl]
  rw [if_neg k4] at h ⊢
  by_cases k5 : n = 5
  · subst k5; rw [if_pos rfl] at h; rw [if_neg (by omega), if_neg (by omega), if_pos rfl, h]; rfl
  rw [if_neg k5] at h
  cases h
theorem nxt_put0 {k : Nat} {t : List UInt8} (h : isT k t = true) : nxt (put k t) = some ((k, t), (put k t).length) := by
  unfold isT at h
  unfold put
  by_cases k1 : k = 1
  · subst k1
    rw [if_pos rfl] at h ⊢
    rw [if_pos h]
    unfold isW at h
    cases t with
    | nil => cases h
    | cons c t =>
      rw [Bool.and_eq_true, beq_iff_eq] at h
      obtain ⟨s1, _, _⟩ := lt_not h.1
      simp only [nxt]
      rw [if_neg (by rw [s1]; decide), if_pos h.1, h.2, List.take_length]
  rw [if_neg k1] at h ⊢
  by_cases k2 : k = 2
  · subst k2
    rw [if_pos rfl] at h ⊢
    rw [if_pos h]
    unfold isF at h
    cases t with
    | nil => cases h
    | cons c t =>
      rw [Bool.and_eq_true, beq_iff_eq] at h
      obtain ⟨s1, s2, _, _⟩ := dg_not h.1
      simp only [nxt]
      rw [if_neg (by rw [s1]; decide), if_neg (by rw [s2]; decide), if_pos h.1, h.2, List.take_length]
  rw [if_neg k2] at h ⊢
  by_cases k3 : k = 3
  · subst k3
    rw [if_pos rfl] at h ⊢
    rw [if_pos h]
    unfold isD at h
    rw [Bool.and_eq_true, beq_iff_eq] at h
    have hpos : t.length ≠ 0 := by
      intro e
      have : t = [] := List.length_eq_zero_iff.1 e
      subst this; cases h.1
    simp only [nxt]
    rw [if_neg (by decide), if_neg (by decide), if_neg (by decide), if_pos trivial, h.2, if_neg hpos, List.take_length]
    rfl
  rw [if_neg k3] at h ⊢
  by_cases k4 : k = 4
  · subst k4
    rw [if_pos rfl]
    unfold quo
    simp only [nxt]
    rw [if_neg (by decide), if_neg (by decide), if_neg (by decide), if_neg (by decide), if_pos trivial, text_q]
    simp
  rw [if_neg k4] at h ⊢
  by_cases k5 : k = 5
  · subst k5
    rw [if_pos rfl] at h ⊢
    rw [if_pos h]
    unfold isS at h
    match t, h with
    | [c], h =>
      simp only [nxt]
      rw [if_pos h]
      rfl
  rw [if_neg k5] at h
  cases h
/-- Whether a text is read as a token, whole. -/
def rdB (s : List UInt8) (x : Tq) : Bool := match nxP s with | some ((k, t), r) => r.isEmpty && (decide ((k : Int) = x.k) && decide (t = x.t)) | none => false
theorem rd_is (x : Tq) : rdB (spQ x) x = isT (kN x.k) x.t := by
  cases h : isT (kN x.k) x.t with
  | true =>
    have hp := nxt_put0 h
    unfold rdB nxP
    rw [spQ_put h, hp]
    simp [kN_tok h]
  | false =>
    unfold rdB
    cases hx : nxP (spQ x) with
    | none => rfl
    | some y =>
      obtain ⟨⟨k, t⟩, r⟩ := y
      obtain ⟨n, h1, -⟩ := nxP_some hx
      have hT := nxt_is h1
      simp only
      by_cases hk : (k : Int) = x.k
      · by_cases ht : t = x.t
        · rw [← hk, tok_kN hT, ← ht, hT] at h; cases h
        · simp [ht]
      · simp [hk]
theorem rd_nil (x : Tq) : rdB [] x = false := rfl
theorem spQ_len (x : Tq) : (spQ x).length ≤ 4 * x.t.length + 2 := by
  unfold spQ
  have hq := (qbd_len x.t).2
  split
  · simp; omega
  · split
    · unfold quo; simp; omega
    · omega
theorem run_equal_tok (x y : Tq) (w : World) : (Op.equalIn 10000 72 (.agg #[.int .i64 x.k, .string (bs x.t), .int .i64 x.l]) (.agg #[.int .i64 y.k, .string (bs y.t), .int .i64 y.l])).run Tryz.prog w = .ok ((x.k == y.k) && ((x.t == y.t) && (x.l == y.l))) w := by
  obtain ⟨a, b, c⟩ := x
  obtain ⟨a', b', c'⟩ := y
  simp [go_sem, Tryz.underlying72]
  by_cases h1 : a = a'
  · by_cases h2 : b = b'
    · by_cases h3 : c = c'
      · simp [h1, h2, h3]
      · simp [h1, h2, h3]
    · simp [h1, h2]
  · simp [h1]
/-- The very line that is asked for. -/
theorem eq_tok (k : Nat) (t : List UInt8) (x : Tq) (w : World) : (Op.equalIn 10000 72 (.agg #[.int .i64 (k : Nat), .string (bs t), .int .i64 x.l]) (.agg #[.int .i64 x.k, .string (bs x.t), .int .i64 x.l])).run Tryz.prog w = .ok (decide ((k : Int) = x.k) && decide (t = x.t)) w := by
  have h := run_equal_tok ⟨(k : Int), t, x.l⟩ x w
  have e : (((k : Int) == x.k) && ((t == x.t) && (x.l == x.l))) = (decide ((k : Int) = x.k) && decide (t = x.t)) := by
    by_cases h1 : (k : Int) = x.k
    · by_cases h2 : t = x.t
      · simp [h1, h2]
      · simp [h1, h2]
    · simp [h1]
  exact h.trans (by rw [e])
theorem gap_has : ∀ c : Fin 256, decide (0 ≤ Lib.indexByte [59, 123, 125] (UInt8.ofNat c.val)) = (decide (c.val = 59) || decide (c.val = 123) || decide (c.val = 125)) := by decide +kernel
theorem gap_of (c : UInt8) : decide (0 ≤ Lib.indexByte [59, 123, 125] c) = decide ([c] = [59] ∨ [c] = [123] ∨ [c] = [125]) := by
  have h := gap_has ⟨c.toNat, c.toNat_lt⟩
  simp only [UInt8.ofNat_toNat] at h
  rw [h]
  have e : ∀ n : Nat, n < 256 → (c.toNat = n ↔ c = UInt8.ofNat n) := fun n hn => ⟨fun h => by rw [← h]; simp, fun h => by rw [h]; simp; omega⟩
  by_cases h1 : c = 59
  · rw [h1]; rfl
  by_cases h2 : c = 123
  · rw [h2]; rfl
  by_cases h3 : c = 125
  · rw [h3]; rfl
  have n1 : ¬ c.toNat = 59 := fun x => h1 ((e 59 (by decide)).1 x)
  have n2 : ¬ c.toNat = 123 := fun x => h2 ((e 123 (by decide)).1 x)
  have n3 : ¬ c.toNat = 125 := fun x => h3 ((e 125 (by decide)).1 x)
  simp [n1, n2, n3, h1, h2, h3]
end Go.Proofs.YtaeglmgpoboihaaGreatDoor
/- The program's Print, walked. -/
namespace Go.Proofs.YtaeglmgpoboihaaGreatDoor
open Go.ChangeShapes Go.WideShapes Go.ChangeAt Go.RowKit K L14
set_option linter.unusedVariables false

/-- The rounds. -/
def PqRel (l : List Tq) (w : World) (g : Nat) (v : Value) (wr : World) : Prop :=
  ∃ i : Nat, i + g = l.length ∧ v = .int .i64 (i : Nat) ∧ allT (bq (l.take i)) = true ∧ (file (bq (l.take i))).length ≤ i * 280000100 ∧ Bld w.heap.size w.heap.size (file (bq (l.take i))) wr ∧ Below w.heap.size w wr
theorem tokT : 72 ≠ 5 := by decide
theorem tokB {w : World} {q : Nat} {x : Tq} (h : w.heap[q]? = some (.cells #[.int .i64 x.k, .string (bs x.t), .int .i64 x.l] 72 (0, 0))) : w.cell? ⟨q, 0, none⟩ = some (.int .i64 x.k) ∧ w.cell? ⟨q, 1, none⟩ = some (.string (bs x.t)) ∧ w.cell? ⟨q, 2, none⟩ = some (.int .i64 x.l) := ⟨cellRow h 0, cellRow h 1, cellRow h 2⟩
theorem bld_row {w : World} {B b q : Nat} {l : List UInt8} (h : Bld B b l w) {cs : Array Value} (hq : w.heap[q]? = some (.cells cs 72 (0, 0))) : q ≠ b := by
  intro e
  subst e
  unfold Bld at h
  rcases h with ⟨_, v, hbk, _, _⟩ | ⟨_, v, hbk, _, _⟩
  · rw [hbk] at hq; injection hq with hq; injection hq with _ hq; revert hq; decide
  · rw [hbk] at hq; injection hq with hq; injection hq with _ hq; revert hq; decide
end Go.Proofs.YtaeglmgpoboihaaGreatDoor
/- LexBack, walked on calls that keep their word. -/
namespace Go.Proofs.YtaeglmgpoboihaaGreatDoor
open Go.ChangeShapes Go.WideShapes Go.ChangeAt Go.RowKit K L14
set_option linter.unusedVariables false

/-- The library counts lines. -/
def HCnt14 (I : World → Prop) : Prop := ∀ (s : List UInt8) (w : World), s.length ≤ 1000000 → I w → Calls Tryz.prog 7 #[.string (bs s), .string { data := #[10] }] w fun e w' => e = .returned (.int .i64 (nls s : Nat)) ∧ Below w.heap.size w w'
/-- The bytes of all texts, of each at most 100000. -/
def totM (l : List Tq) : Nat := (l.map fun x => min x.t.length 100000).sum
theorem totM_at (l : List Tq) (i : Nat) (h : i < l.length) : totM (l.take (i + 1)) = totM (l.take i) + min (l.getD i noQ).t.length 100000 := by
  unfold totM
  rw [List.take_succ_eq_append_getElem h, List.map_append, List.sum_append]
  simp [List.getD, h]
theorem totM_le (l : List Tq) : totM l ≤ 100000 * l.length := by
  unfold totM
  induction l with
  | nil => simp
  | cons x l ih => simp only [List.map_cons, List.sum_cons, List.length_cons]; omega
theorem totM_tot : ∀ l : List Tq, totM l < 5000 → totM l = tot l ∧ ∀ i, i < l.length → (l.getD i noQ).t.length ≤ 5000
  | [], _ => ⟨rfl, fun i hi => by simp at hi⟩
  | x :: l, h => by
    have h0 : totM (x :: l) = min x.t.length 100000 + totM l := by simp [totM]
    have h1 : tot (x :: l) = x.t.length + tot l := by simp [tot]
    rw [h0] at h
    obtain ⟨h2, h3⟩ := totM_tot l (by omega)
    refine ⟨by rw [h0, h1]; omega, fun i hi => ?_⟩
    cases i with
    | zero => show x.t.length ≤ 5000; omega
    | succ i => exact h3 i (by simpa using hi)
theorem tq_short {k : List Tk} (h : ∀ x ∈ k, x.t.length ≤ 65536) : ∀ i, i < (tq k).length → ((tq k).getD i noQ).t.length ≤ 70000000 := by
  intro i hi
  rw [tq_len] at hi
  have := h _ (List.getElem_mem hi)
  simp [tq, List.getD, hi]
  omega
theorem tot_le {B : Nat} : ∀ {l : List Tq}, (∀ x ∈ l, x.t.length ≤ B) → tot l ≤ B * l.length
  | [], _ => by simp [tot]
  | x :: l, h => by
    have h1 := h x (List.mem_cons_self ..)
    have h2 := tot_le (B := B) (l := l) (fun y hy => h y (List.mem_cons_of_mem _ hy))
    have h3 : tot (x :: l) = x.t.length + tot l := by simp [tot]
    rw [h3, List.length_cons, Nat.mul_succ]; omega
theorem prS_short (s : List UInt8) : (prS (tq (pgL s))).length ≤ 140737488355327 := by
  obtain ⟨h1, h2, h3⟩ := pgL_is s
  have h4 := file_tot (tq (pgL s))
  have h5 : tot (tq (pgL s)) ≤ 65536 * (tq (pgL s)).length := tot_le (fun x hx => by
    obtain ⟨y, hy, rfl⟩ := List.mem_map.1 hx
    exact h3 y hy)
  rw [tq_len] at h4 h5
  unfold prS
  split
  · omega
  · simp
def TmRel (l : List Tq) (w : World) (g : Nat) (vn vi : Value) (wr : World) : Prop := ∃ i : Nat, i + g = l.length ∧ vi = .int .i64 (i : Nat) ∧ vn = .int .i64 (totM (l.take i) : Nat) ∧ Below w.heap.size w wr
end Go.Proofs.YtaeglmgpoboihaaGreatDoor
/- The program's calls, as the laws of tokens want them. -/
namespace Go.Proofs.YtaeglmgpoboihaaGreatDoor
open Go.ChangeShapes Go.WideShapes Go.ChangeAt Go.RowKit K L14
set_option linter.unusedVariables false

theorem lex_cnt : HCnt14 LxI := by
  intro s w hs hw
  have h := Tryz.strings_Count_one (bs s) 10 w
  rw [bs_toList] at h
  exact h.mono fun e w' ⟨h1, h2⟩ => ⟨h1, by rw [h2]; exact Below.refl _ _⟩
end Go.Proofs.YtaeglmgpoboihaaGreatDoor
